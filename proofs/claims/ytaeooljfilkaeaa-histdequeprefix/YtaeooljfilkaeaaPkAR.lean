import Derived.Test.YtaeooljfilkaeaaPkAP
import Derived.Test.YtaeooljfilkaeaaPkAQ
/-! A game, fit and played. -/
namespace Go.Proofs.Ytaeooljfilkaeaa
set_option linter.unusedVariables false
set_option maxRecDepth 20000
set_option linter.unusedSimpArgs false
open Go.RowKit Go.HeapKit Go.IntWalk Go.PlainOps

theorem todo_of_row {w : World} {ta : Option Addr} {c : Nat} {T : List Tod} (h : w.ownsRow 0 55 2 (.slice ta T.length c) T.length (rowVals Tod.vals T)) : TodoAt w ta T ∧ T.length ≤ c := by
  refine ⟨fun h0 => ?_, ?_⟩
  · obtain ⟨g, rfl, hc⟩ := rowAtD h h0
    exact ⟨g, 0, rfl, own_lt h rfl, fun i t hi => ⟨by rw [Nat.zero_add]; exact hc _ _ (rowVals_at Tod.vals_size _ i _ hi 0 _ rfl), by rw [Nat.zero_add]; exact hc _ _ (rowVals_at Tod.vals_size _ i _ hi 1 _ rfl)⟩⟩
  · rcases h.2 with ⟨e, h0⟩ | ⟨g, cap, cur, e, _, _, hn, _⟩
    · omega
    · injection e with e1 e2 e3; omega
theorem ints_of_row {w : World} {pa : Option Addr} {c : Nat} {L : List Int} (h : w.ownsRow 0 3 1 (.slice pa L.length c) L.length (L.map (Value.int .i64))) : Ints w pa L ∧ L.length ≤ c := by
  refine ⟨fun h0 => ?_, ?_⟩
  · obtain ⟨g, rfl, hc⟩ := rowAtD h h0
    exact ⟨g, 0, rfl, own_lt h rfl, fun i hi => by rw [Nat.zero_add]; exact hc i _ (by simp [List.getD_eq_getElem?_getD, hi])⟩
  · rcases h.2 with ⟨e, h0⟩ | ⟨g, cap, cur, e, _, _, hn, _⟩
    · omega
    · injection e with e1 e2 e3; omega
theorem Ints.take {w : World} {pa : Option Addr} {L : List Int} (h : Ints w pa L) (n : Nat) : Ints w pa (L.take n) := by
  intro h0
  rw [List.length_take] at h0
  obtain ⟨b, off, e, hb, hc⟩ := h (by omega)
  refine ⟨b, off, e, hb, fun i hi => ?_⟩
  rw [List.length_take] at hi
  rw [hc i (by omega)]
  simp [List.getD_eq_getElem?_getD, List.getElem?_take, show i < n by omega]
theorem whoS_fit {th : Nat} {L : List Nat} (h : ∀ x ∈ L, x < 1 + th) : whoS th (L.map (fun x : Nat => (x : Int))) = L := by
  induction L with
  | nil => rfl
  | cons x L ih =>
    have hx := h x (by simp)
    show ((x : Int) % ((1 + th : Nat) : Int)).toNat :: whoS th (L.map (fun x : Nat => (x : Int))) = x :: L
    rw [ih (fun y hy => h y (by simp [hy])), Int.emod_eq_of_lt (by omega) (by omega), Int.toNat_natCast]
theorem kinds_fit (l : List Tod) : TKinds (fitT l) := by
  intro x hx
  obtain ⟨y, -, rfl⟩ := List.mem_map.1 hx
  have := mdN_lt y.kind (n := 2) (by omega)
  show ((mdN y.kind 2 : Nat) : Int) = 0 ∨ ((mdN y.kind 2 : Nat) : Int) = 1
  omega
theorem picks_fit (t : Int) (z : List Int) : ∀ x ∈ fitP t z, x < 1 + mdN t 4 := by
  intro x hx
  obtain ⟨y, -, rfl⟩ := List.mem_map.1 hx
  exact mdN_lt y (by omega)
theorem caps_fit (f m : Int) : CapOK (fitF f : Nat) (fitM f m : Nat) := by
  have h1 := mdN_lt f (n := 8) (by omega)
  have h2 := mdN_lt m (n := 8) (by omega)
  unfold CapOK fitM fitF
  omega
theorem cutL_cl (p : Int) (l : List Cal) : cutL p (l.map Cal.cl) = (cutC p l).map Cal.cl := by
  induction l with
  | nil => rfl
  | cons c l ih =>
    simp only [List.map_cons, cutL, cutC]
    show (if c.bg ≥ p then _ else _) = _
    split
    · exact ih
    · rw [List.map_cons, ih]
      congr 1
      unfold Cl.shut Cal.shut
      show (if c.en ≥ p then _ else _) = _
      split <;> rfl
end Go.Proofs.Ytaeooljfilkaeaa
/-! HistDequePrefix. -/
namespace Go.Proofs.Ytaeooljfilkaeaa
set_option linter.unusedVariables false
set_option maxRecDepth 20000
set_option linter.unusedSimpArgs false
open Go.RowKit Go.HeapKit Go.IntWalk Go.PlainOps

set_option maxHeartbeats 2000000 in
set_option maxRecDepth 100000 in
theorem prefix_walk (f m : Int) (ao : Option Addr) (n c : Nat) (l : List Tod) (t : Int) (bo : Option Addr) (k e : Nat) (z : List Int) (x : Int) (w : World) (hn : n = l.length) (hT : TodoAt w ao l) (hk : k = z.length) (hZ : Ints w bo z) :
    Calls Try.prog 3 #[.agg #[.int .i64 f, .int .i64 m, .slice ao n c, .int .i64 t, .slice bo k e], .int .i64 x] w fun e w' => e = .returned (.bool true) ∧ Below w.heap.size w w' := by
  have hkX := Keeps.alloc None w (.cells #[.int .i64 f, .int .i64 m, .slice ao n c, .int .i64 t, .slice bo k e] 25)
  have hfit := fit_ok f m t ao bo n c k e 200 2000 l z _ hn hk (hT.kept hkX) (hZ.kept hkX) (by omega) (by omega)
  have hfit : Calls Try.prog 8 #[.agg #[.int .i64 f, .int .i64 m, .slice ao n c, .int .i64 t, .slice bo k e], .int .i64 200, .int .i64 2000] _ _ := hfit
  have HK : Hid _ := hkX
  have hcap := caps_fit f m
  have hkd := kinds_fit (l.take 200)
  have hpk := picks_fit t (z.take 2000)
  have hTl : (fitT (l.take 200)).length ≤ 200 := by simp [fitT]; omega
  have hPl : (fitP t (z.take 2000)).length ≤ 2000 := by simp [fitP]; omega
  have hth := mdN_lt t (n := 4) (by omega)
  generalize fitF f = F at hfit hcap
  generalize fitM f m = M at hfit hcap
  generalize mdN t 4 = th at hfit hpk hth
  generalize fitT (l.take 200) = T at hfit hkd hTl
  generalize fitP t (z.take 2000) = P at hfit hpk hPl
  have HC : Hid _ := And.intro hcap (And.intro hkd (And.intro hpk hth))
  clear hkX hcap hkd hpk hn hT hk hZ hth
  go_enter Try.func3, Try.ntmps3
  go_wp2_with fail
  refine hfit.mono ?_
  rintro e1 w1 ⟨vT, vP, rfl, hQ⟩
  obtain ⟨ta, tc, hvT⟩ := own_shape hQ.oT
  obtain ⟨pa, pc, hvP⟩ := own_shape hQ.oP
  subst hvT hvP
  obtain ⟨PI, hPI⟩ : ∃ PI, PI = P.map (fun x : Nat => (x : Int)) := ⟨_, rfl⟩
  rw [← hPI] at hQ ⊢
  obtain ⟨hT1, hTc⟩ := todo_of_row hQ.oT
  obtain ⟨hI1, hPc⟩ := ints_of_row hQ.oP
  have hPIl : PI.length ≤ 2000 := by rw [hPI, List.length_map]; exact hPl
  have hwho : whoS th PI = P := by rw [hPI]; exact whoS_fit HC.out.2.2.1
  have hkG := Keeps.alloc None w1 (.cells #[.int .i64 (F : Int), .int .i64 (M : Int), .slice ta T.length tc, .int .i64 (th : Int), .slice pa PI.length pc] 25)
  have hbG := new_at w1 (.cells #[.int .i64 (F : Int), .int .i64 (M : Int), .slice ta T.length tc, .int .i64 (th : Int), .slice pa PI.length pc] 25) _ rfl
  have hmod := mod4_any x (PI.length + 1) (by omega) (by omega)
  have hat := mdN_lt x (n := PI.length + 1) (by omega)
  generalize mdN x (PI.length + 1) = at_ at hmod hat
  have ep : ((PI.length + 1 : Nat) : Int) = (PI.length : Int) + 1 := by omega
  rw [ep] at hmod
  have hT2 := hT1.kept hkG
  have hI2 := hI1.kept hkG
  have HQ : Hid _ := And.intro (HK.out.trans (hQ.kp) (fun _ f _ => f)) (And.intro hkG hbG)
  have jp : (PI.length : Int) ≤ 2000 := by omega
  have HL : Hid _ := And.intro hPIl (And.intro hat (And.intro hTc (And.intro hPc hTl)))
  have HW : Hid _ := hwho
  have HPI : Hid _ := hPI
  have HI2 : Hid _ := hI2
  clear hQ hT1 hI1 hkG hbG ep hPI hPl hTl hfit hwho
  go_wp2_with fail
  generalize (w1.alloc (.cells #[.int .i64 (F : Int), .int .i64 (M : Int), .slice ta T.length tc, .int .i64 (th : Int), .slice pa PI.length pc] 25)) = w2 at HQ hT2 hI2 HI2 ⊢
  generalize w1.heap.size = G at HQ ⊢
  refine (hmod _).mono ?_
  rintro e2 w8 ⟨rfl, hw8⟩
  have hv8 := hw8.symm
  subst hv8
  clear hw8 hmod
  have hplay := fun w' (hk : Keeps None w2 w') => gplay_ok F M th ta pa pa T tc pc PI.length pc PI w' HC.out.1 (by have := HC.out.2.2.2; omega) (by have := HL.out.2.2.2.2; omega) (by have := HL.out.1; omega) HC.out.2.1 (hT2.kept hk) HL.out.2.2.1 (hI2.kept hk)
  have hplay2 := fun w' (hk : Keeps None w2 w') => gplay_ok F M th ta pa pa T tc pc PI.length pc (PI.take at_) w' HC.out.1 (by have := HC.out.2.2.2; omega) (by have := HL.out.2.2.2.2; omega) (by have := HL.out.1; rw [List.length_take]; omega) HC.out.2.1 (hT2.kept hk) HL.out.2.2.1 ((hI2.kept hk).take at_)
  have hlt : (PI.take at_).length = at_ := by rw [List.length_take]; have := HL.out.2.1; omega
  rw [hlt] at hplay2
  have hwt : whoS th (PI.take at_) = P.take at_ := by
    have := HW.out
    unfold whoS at this ⊢
    rw [List.map_take, this]
  rw [HW.out] at hplay
  rw [hwt] at hplay2
  generalize hsize : cellsFrom M F (4 + F) = size at hplay hplay2
  have HSZ : Hid _ := hsize
  clear hsize hlt hwt hT2 hI2
  have g0 := (cell_of_block HQ.out.2.2 0).trans rfl
  have g1 := (cell_of_block HQ.out.2.2 1).trans rfl
  have g2 := (cell_of_block HQ.out.2.2 2).trans rfl
  have g3 := (cell_of_block HQ.out.2.2 3).trans rfl
  have g4 := (cell_of_block HQ.out.2.2 4).trans rfl
  go_wp2_with fail
  refine (hplay _ (Keeps.refl _ _)).mono ?_
  rintro e3 w3 ⟨va, vr, vl, q1, rfl, hD1, hP1⟩
  obtain ⟨xa, ca, hva⟩ := own_shape hD1.ca
  obtain ⟨xr, cr, hvr⟩ := own_shape hD1.re
  obtain ⟨gl, hvl, -, -⟩ := hD1.lo
  subst hva hvr hvl
  generalize hS1 : (startS size F M th T).picks 0 P = S1 at hD1 hP1 ⊢
  generalize hS2 : (startS size F M th T).picks 0 (P.take at_) = S2 at hplay2
  have HSS : Hid _ := And.intro hS1 (And.intro hS2 hP1)
  have hkD := Keeps.alloc None w3 (.cells #[.slice xa S1.calls.length ca, .slice xr (restL q1).length cr, .slice (some ⟨gl, 0, none⟩) S1.A.log.length S1.A.log.length] 32)
  have hbD := new_at w3 (.cells #[.slice xa S1.calls.length ca, .slice xr (restL q1).length cr, .slice (some ⟨gl, 0, none⟩) S1.A.log.length S1.A.log.length] 32) _ rfl
  have hk4 := hD1.kp.trans hkD (fun _ f _ => f)
  have hca := hkD.own hD1.ca (fun _ _ f => f)
  have gs := And.intro (hk4.cell g0 (fun f => f)) (And.intro (hk4.cell g1 (fun f => f)) (And.intro (hk4.cell g2 (fun f => f)) (And.intro (hk4.cell g3 (fun f => f)) (hk4.cell g4 (fun f => f)))))
  have HD1 : Hid _ := And.intro hca (And.intro hbD hk4)
  have j1 : (at_ : Int) ≤ (PI.length : Int) := by have := HL.out.2.1; omega
  have j2 : (at_ : Int) ≤ (pc : Int) := by have := HL.out.2.1; have := HL.out.2.2.2.1; omega
  clear hD1 hP1 hS1 hS2 hkD hbD hca hplay g0 g1 g2 g3 g4
  go_upto_region 4 with fail
  generalize (w3.alloc (.cells #[.slice xa S1.calls.length ca, .slice xr (restL q1).length cr, .slice (some ⟨gl, 0, none⟩) S1.A.log.length S1.A.log.length] 32)) = w4 at HD1 hk4 gs ⊢
  generalize w3.heap.size = D7 at HD1 ⊢
  have hG4 : ¬ G = w4.heap.size := by have h1 := (Array.getElem?_eq_some_iff.1 HQ.out.2.2).1; have := hk4.size; omega
  have hG5 : ¬ w4.heap.size = G := fun e => hG4 e.symm
  go_cut [9, 10] (fun s9 s10 wx => s10 = .bool true ∧ ∃ D9 xb cb v1 v2, s9 = .pointer (some ⟨D9, 0, none⟩) ∧ wx.heap[D9]? = some (.cells #[.slice xb S2.calls.length cb, v1, v2] 32 (0, 0)) ∧ Keeps None w4 wx ∧ wx.ownsRow 0 45 7 (.slice xb S2.calls.length cb) S2.calls.length (rowVals Cal.vals S2.calls))
  case first =>
    refine wp_region_held_drew (S := (fun w' => w'.cell? ⟨G, 0, none⟩ = some (.int .i64 (F : Int)) ∧ w'.cell? ⟨G, 1, none⟩ = some (.int .i64 (M : Int)) ∧ w'.cell? ⟨G, 2, none⟩ = some (.slice ta T.length tc) ∧ w'.cell? ⟨G, 3, none⟩ = some (.int .i64 (th : Int)) ∧ w'.cell? ⟨G, 4, none⟩ = some (.slice pa PI.length pc))) (by kernel_rfl) ?_ (fun hHeld => ?_)
    · (try dsimp only); (first | with_reducible exact gs | with_reducible exact hs5 | go_keep)
    refine wpAnyH_take (i := 0) (oi := { dst := some 27, op := Op.load 25 (Operand.tmp 5), type := 25, pos := "outright.go:115", after := #[], guard := none }) (v := ?_) rfl (by kernel_rfl) (by kernel_rfl) (by kernel_rfl) (fun _ _ _ h => h) (Or.inl ⟨by rfl, ?_⟩) (by assumption) ?_
    rotate_left
    · (intro wz hSw; (try dsimp only at hSw); go_simp; try with_reducible rfl)
    simp only [Act.put, List.setIfInBounds_toArray, List.set_cons_zero, List.set_cons_succ]
    refine wpAnyH_take (i := 1) (oi := { dst := some 28, op := Op.fieldAddr 25 (Operand.tmp 5) 4, type := 0, pos := "outright.go:115", after := #[], guard := none }) (v := ?_) rfl (by kernel_rfl) (by kernel_rfl) (by kernel_rfl) (fun _ _ _ h => h) (Or.inl ⟨by rfl, ?_⟩) (by assumption) ?_
    rotate_left
    · (intro wz hSw; (try dsimp only at hSw); go_simp; try with_reducible rfl)
    simp only [Act.put, List.setIfInBounds_toArray, List.set_cons_zero, List.set_cons_succ]
    refine wpAnyH_take (i := 2) (oi := { dst := some 29, op := Op.load 23 (Operand.tmp 28), type := 23, pos := "outright.go:115", after := #[{ on := 1, ground := Ground.data }], guard := none }) (v := ?_) rfl (by kernel_rfl) (by kernel_rfl) (by kernel_rfl) (fun _ _ _ h => h) (Or.inl ⟨by rfl, ?_⟩) (by assumption) ?_
    rotate_left
    · (intro wz hSw; (try dsimp only at hSw); go_simp; try with_reducible rfl)
    simp only [Act.put, List.setIfInBounds_toArray, List.set_cons_zero, List.set_cons_succ]
    refine wpAnyH_take (i := 3) (oi := { dst := some 30, op := Op.move (Operand.tmp 6), type := 3, pos := "outright.go:115", after := #[], guard := none }) (v := ?_) rfl (by kernel_rfl) (by kernel_rfl) (by kernel_rfl) (fun _ _ _ h => h) (Or.inl ⟨by rfl, ?_⟩) (by assumption) ?_
    rotate_left
    · (intro wz hSw; (try dsimp only at hSw); go_simp; try with_reducible rfl)
    simp only [Act.put, List.setIfInBounds_toArray, List.set_cons_zero, List.set_cons_succ]
    refine wpAnyH_take (i := 4) (oi := { dst := some 31, op := Op.slice 23 (Operand.tmp 29) none (some (Operand.tmp 30)) none, type := 23, pos := "outright.go:115", after := #[{ on := 2, ground := Ground.data }, { on := 3, ground := Ground.data }], guard := none }) (v := ?_) rfl (by kernel_rfl) (by kernel_rfl) (by kernel_rfl) (fun _ _ _ h => h) (Or.inl ⟨by rfl, ?_⟩) (by assumption) ?_
    rotate_left
    · (intro wz hSw; (try dsimp only at hSw); go_simp; try with_reducible rfl)
    simp only [Act.put, List.setIfInBounds_toArray, List.set_cons_zero, List.set_cons_succ]
    refine wpAnyH_ready (rs := [5, 9]) (by kernel_rfl) (by simp) ?_
    refine AllReadyH.cons (o := { dst := some 32, op := Op.call { callee := Callee.value (Operand.func 10), args := #[Operand.tmp 27, Operand.tmp 31], argTypes := #[25, 23] }, type := 33, pos := "outright.go:115", after := #[{ on := 0, ground := Ground.data }, { on := 4, ground := Ground.data }], guard := none }) rfl (fun K hK => ?_) ?_
    · go_simp
      refine (hplay2 _ (by first | exact hk4.trans (Keeps.drew None _) (fun _ f _ => f) | exact (hk4.andAlloc _).andDrew | exact (hk4.andDrew).andAlloc _)).mono ?_
      rintro _ w5 ⟨vb, vr2, vl2, q2, rfl, hD2, hP2⟩
      obtain ⟨xb, cb, hvb⟩ := own_shape hD2.ca
      obtain ⟨xr2, cr2, hvr2⟩ := own_shape hD2.re
      obtain ⟨gl2, hvl2, -, -⟩ := hD2.lo
      subst hvb hvr2 hvl2
      have hkz : Keeps None w4 w5 := Keeps.trans (by first | exact Keeps.drew None w4 | exact ((Keeps.refl None w4).andAlloc _).andDrew | exact ((Keeps.refl None w4).andDrew).andAlloc _) hD2.kp (fun _ f _ => f)
      have hs5 := And.intro (hkz.cell gs.1 (fun f => f)) (And.intro (hkz.cell gs.2.1 (fun f => f)) (And.intro (hkz.cell gs.2.2.1 (fun f => f)) (And.intro (hkz.cell gs.2.2.2.1 (fun f => f)) (hkz.cell gs.2.2.2.2 (fun f => f)))))
      have hb9 : True ∨ True := .inl trivial
      try (replace hb9 : w5.heap[w4.heap.size]? = some (.cells #[.slice none 0 0, .slice none 0 0, .slice none 0 0] 32 (0, 0)) := blkD (by first | exact blkD (new_at w4 (.cells #[.slice none 0 0, .slice none 0 0, .slice none 0 0] 32) _ rfl) (Keeps.drew None _) (fun f => f) | exact new_at w4.drew (.cells #[.slice none 0 0, .slice none 0 0, .slice none 0 0] 32) _ rfl) hD2.kp (fun f => f))
      try (have r0 := (cell_of_block hb9 0).trans rfl; have r1 := (cell_of_block hb9 1).trans rfl; have r2 := (cell_of_block hb9 2).trans rfl; have p0 := free_of_block hb9 0; have p1 := free_of_block hb9 1; have p2 := free_of_block hb9 2)
      refine hK.out _ _ ?_ (fun hHeld2 => ?_)
      · (try dsimp only); (first | with_reducible exact gs | with_reducible exact hs5 | go_keep)
      clear hK K
      try simp only [Act.put, List.setIfInBounds_toArray, List.set_cons_zero, List.set_cons_succ]
      refine wpAnyH_take (i := 6) (oi := { dst := some 26, op := Op.move (Operand.tmp 32), type := 33, pos := "outright.go:115", after := #[{ on := 5, ground := Ground.data }], guard := none }) (v := ?_) rfl (by kernel_rfl) (by kernel_rfl) (by kernel_rfl) (fun _ _ _ h => h) (Or.inl ⟨by rfl, ?_⟩) (by assumption) ?_
      rotate_left
      · (intro wz hSw; (try dsimp only at hSw); go_simp; try with_reducible rfl)
      simp only [Act.put, List.setIfInBounds_toArray, List.set_cons_zero, List.set_cons_succ]
      refine wpAnyH_take (i := 7) (oi := { dst := some 33, op := Op.extract (Operand.tmp 26) 0, type := 32, pos := "outright.go:115", after := #[{ on := 6, ground := Ground.data }], guard := none }) (v := ?_) rfl (by kernel_rfl) (by kernel_rfl) (by kernel_rfl) (fun _ _ _ h => h) (Or.inl ⟨by rfl, ?_⟩) (by assumption) ?_
      rotate_left
      · (intro wz hSw; (try dsimp only at hSw); go_simp; try with_reducible rfl)
      simp only [Act.put, List.setIfInBounds_toArray, List.set_cons_zero, List.set_cons_succ]
      refine wpAnyH_take (i := 8) (oi := { dst := some 34, op := Op.extract (Operand.tmp 26) 1, type := 4, pos := "outright.go:115", after := #[{ on := 6, ground := Ground.data }, { on := 10, ground := Ground.gcOnly Departure.lateStores }], guard := none }) (v := ?_) rfl (by kernel_rfl) (by kernel_rfl) (by kernel_rfl) (fun _ _ _ h => h) (Or.inl ⟨by rfl, ?_⟩) (by assumption) ?_
      rotate_left
      · (intro wz hSw; (try dsimp only at hSw); go_simp; try with_reducible rfl)
      simp only [Act.put, List.setIfInBounds_toArray, List.set_cons_zero, List.set_cons_succ]
      refine wpAnyH_ready (rs := [9]) (by kernel_rfl) (by simp) ?_
      refine AllReadyH.cons (o := { dst := some 9, op := Op.alloc 32, type := 0, pos := "outright.go:115", after := #[], guard := none }) rfl (fun K hK => ?_) ?_
      · go_simp
        refine hK.out _ _ ?_ (fun hHeld2 => ?_)
        · (try dsimp only); (first | with_reducible exact gs | with_reducible exact hs5 | go_keep)
        clear hK K
        try simp only [Act.put, List.setIfInBounds_toArray, List.set_cons_zero, List.set_cons_succ]
        refine wpAnyH_ready (rs := [10]) (by kernel_rfl) (by simp) ?_
        refine AllReadyH.cons (o := { dst := none, op := Op.store 32 (Operand.tmp 9) (Operand.tmp 33), type := 0, pos := "outright.go:115", after := #[{ on := 9, ground := Ground.data }, { on := 7, ground := Ground.data }, { on := 5, ground := Ground.chain }, { on := 0, ground := Ground.phase }, { on := 1, ground := Ground.phase }, { on := 2, ground := Ground.phase }, { on := 3, ground := Ground.phase }, { on := 4, ground := Ground.phase }, { on := 5, ground := Ground.phase }, { on := 6, ground := Ground.phase }, { on := 7, ground := Ground.phase }, { on := 8, ground := Ground.textOnly Departure.lateStores }, { on := 9, ground := Ground.phase }], guard := none }) rfl (fun K hK => ?_) ?_
        · go_simp
          refine hK.out _ _ ?_ (fun hHeld2 => ?_)
          · (try dsimp only); (first | with_reducible exact gs | with_reducible exact hs5 | go_keep)
          clear hK K
          try simp only [Act.put, List.setIfInBounds_toArray, List.set_cons_zero, List.set_cons_succ]
          refine wpAnyH_take (i := 11) (oi := { dst := some 10, op := Op.assign (Operand.tmp 34), type := 4, pos := "outright.go:115", after := #[{ on := 8, ground := Ground.data }, { on := 10, ground := Ground.chain }, { on := 0, ground := Ground.phase }, { on := 1, ground := Ground.phase }, { on := 2, ground := Ground.phase }, { on := 3, ground := Ground.phase }, { on := 4, ground := Ground.phase }, { on := 5, ground := Ground.phase }, { on := 6, ground := Ground.phase }, { on := 7, ground := Ground.phase }, { on := 8, ground := Ground.phase }, { on := 9, ground := Ground.phase }, { on := 10, ground := Ground.phase }], guard := none }) (v := ?_) rfl (by kernel_rfl) (by kernel_rfl) (by kernel_rfl) (fun _ _ _ h => h) (Or.inl ⟨by rfl, ?_⟩) (by assumption) ?_
          rotate_left
          · (intro wz hSw; (try dsimp only at hSw); go_simp; try with_reducible rfl)
          simp only [Act.put, List.setIfInBounds_toArray, List.set_cons_zero, List.set_cons_succ]
          refine wpAnyH_done (by kernel_rfl) ?_ _
          go_wp2_with fail
          go_meet
          have hset : ∀ a b c, Keeps (· = w4.heap.size) w5 (((w5.setCell ⟨w4.heap.size, 0, none⟩ a).setCell ⟨w4.heap.size, 1, none⟩ b).setCell ⟨w4.heap.size, 2, none⟩ c) := fun a b c => setsFrom_keeps w4.heap.size [a, b, c] 0 w5
          first | exact ⟨rfl, w5.heap.size, xb, cb, _, _, rfl, new_at w5 _ _ rfl, hkz.andAlloc _, (Keeps.alloc None w5 _).own hD2.ca (fun _ _ f => f)⟩ | exact ⟨rfl, w4.heap.size, xb, cb, _, _, rfl, (setCell_block (setCell_block (setCell_block hb9 _) _) _).trans rfl, hkz.trans (hset _ _ _) (fun i e hi => by omega), (hset _ _ _).own hD2.ca (fun k e e2 => by have h9 := hD2.nc k e; simp at h9; omega)⟩
        exact AllReadyH.nil
      exact AllReadyH.nil
    refine AllReadyH.cons (o := { dst := some 9, op := Op.alloc 32, type := 0, pos := "outright.go:115", after := #[], guard := none }) rfl (fun K hK => ?_) ?_
    · go_simp
      refine hK.out _ _ ?_ (fun hHeld2 => ?_)
      · (try dsimp only); (first | with_reducible exact gs | with_reducible exact hs5 | go_keep)
      clear hK K
      try simp only [Act.put, List.setIfInBounds_toArray, List.set_cons_zero, List.set_cons_succ]
      refine wpAnyH_ready (rs := [5]) (by kernel_rfl) (by simp) ?_
      refine AllReadyH.cons (o := { dst := some 32, op := Op.call { callee := Callee.value (Operand.func 10), args := #[Operand.tmp 27, Operand.tmp 31], argTypes := #[25, 23] }, type := 33, pos := "outright.go:115", after := #[{ on := 0, ground := Ground.data }, { on := 4, ground := Ground.data }], guard := none }) rfl (fun K hK => ?_) ?_
      · go_simp
        refine (hplay2 _ (by first | exact hk4.trans (Keeps.drew None _) (fun _ f _ => f) | exact (hk4.andAlloc _).andDrew | exact (hk4.andDrew).andAlloc _)).mono ?_
        rintro _ w5 ⟨vb, vr2, vl2, q2, rfl, hD2, hP2⟩
        obtain ⟨xb, cb, hvb⟩ := own_shape hD2.ca
        obtain ⟨xr2, cr2, hvr2⟩ := own_shape hD2.re
        obtain ⟨gl2, hvl2, -, -⟩ := hD2.lo
        subst hvb hvr2 hvl2
        have hkz : Keeps None w4 w5 := Keeps.trans (by first | exact Keeps.drew None w4 | exact ((Keeps.refl None w4).andAlloc _).andDrew | exact ((Keeps.refl None w4).andDrew).andAlloc _) hD2.kp (fun _ f _ => f)
        have hs5 := And.intro (hkz.cell gs.1 (fun f => f)) (And.intro (hkz.cell gs.2.1 (fun f => f)) (And.intro (hkz.cell gs.2.2.1 (fun f => f)) (And.intro (hkz.cell gs.2.2.2.1 (fun f => f)) (hkz.cell gs.2.2.2.2 (fun f => f)))))
        have hb9 : True ∨ True := .inl trivial
        try (replace hb9 : w5.heap[w4.heap.size]? = some (.cells #[.slice none 0 0, .slice none 0 0, .slice none 0 0] 32 (0, 0)) := blkD (by first | exact blkD (new_at w4 (.cells #[.slice none 0 0, .slice none 0 0, .slice none 0 0] 32) _ rfl) (Keeps.drew None _) (fun f => f) | exact new_at w4.drew (.cells #[.slice none 0 0, .slice none 0 0, .slice none 0 0] 32) _ rfl) hD2.kp (fun f => f))
        try (have r0 := (cell_of_block hb9 0).trans rfl; have r1 := (cell_of_block hb9 1).trans rfl; have r2 := (cell_of_block hb9 2).trans rfl; have p0 := free_of_block hb9 0; have p1 := free_of_block hb9 1; have p2 := free_of_block hb9 2)
        refine hK.out _ _ ?_ (fun hHeld2 => ?_)
        · (try dsimp only); (first | with_reducible exact gs | with_reducible exact hs5 | go_keep)
        clear hK K
        try simp only [Act.put, List.setIfInBounds_toArray, List.set_cons_zero, List.set_cons_succ]
        refine wpAnyH_take (i := 6) (oi := { dst := some 26, op := Op.move (Operand.tmp 32), type := 33, pos := "outright.go:115", after := #[{ on := 5, ground := Ground.data }], guard := none }) (v := ?_) rfl (by kernel_rfl) (by kernel_rfl) (by kernel_rfl) (fun _ _ _ h => h) (Or.inl ⟨by rfl, ?_⟩) (by assumption) ?_
        rotate_left
        · (intro wz hSw; (try dsimp only at hSw); go_simp; try with_reducible rfl)
        simp only [Act.put, List.setIfInBounds_toArray, List.set_cons_zero, List.set_cons_succ]
        refine wpAnyH_take (i := 7) (oi := { dst := some 33, op := Op.extract (Operand.tmp 26) 0, type := 32, pos := "outright.go:115", after := #[{ on := 6, ground := Ground.data }], guard := none }) (v := ?_) rfl (by kernel_rfl) (by kernel_rfl) (by kernel_rfl) (fun _ _ _ h => h) (Or.inl ⟨by rfl, ?_⟩) (by assumption) ?_
        rotate_left
        · (intro wz hSw; (try dsimp only at hSw); go_simp; try with_reducible rfl)
        simp only [Act.put, List.setIfInBounds_toArray, List.set_cons_zero, List.set_cons_succ]
        refine wpAnyH_take (i := 8) (oi := { dst := some 34, op := Op.extract (Operand.tmp 26) 1, type := 4, pos := "outright.go:115", after := #[{ on := 6, ground := Ground.data }, { on := 10, ground := Ground.gcOnly Departure.lateStores }], guard := none }) (v := ?_) rfl (by kernel_rfl) (by kernel_rfl) (by kernel_rfl) (fun _ _ _ h => h) (Or.inl ⟨by rfl, ?_⟩) (by assumption) ?_
        rotate_left
        · (intro wz hSw; (try dsimp only at hSw); go_simp; try with_reducible rfl)
        simp only [Act.put, List.setIfInBounds_toArray, List.set_cons_zero, List.set_cons_succ]
        refine wpAnyH_ready (rs := [10]) (by kernel_rfl) (by simp) ?_
        refine AllReadyH.cons (o := { dst := none, op := Op.store 32 (Operand.tmp 9) (Operand.tmp 33), type := 0, pos := "outright.go:115", after := #[{ on := 9, ground := Ground.data }, { on := 7, ground := Ground.data }, { on := 5, ground := Ground.chain }, { on := 0, ground := Ground.phase }, { on := 1, ground := Ground.phase }, { on := 2, ground := Ground.phase }, { on := 3, ground := Ground.phase }, { on := 4, ground := Ground.phase }, { on := 5, ground := Ground.phase }, { on := 6, ground := Ground.phase }, { on := 7, ground := Ground.phase }, { on := 8, ground := Ground.textOnly Departure.lateStores }, { on := 9, ground := Ground.phase }], guard := none }) rfl (fun K hK => ?_) ?_
        · go_simp
          refine hK.out _ _ ?_ (fun hHeld2 => ?_)
          · (try dsimp only); (first | with_reducible exact gs | with_reducible exact hs5 | go_keep)
          clear hK K
          try simp only [Act.put, List.setIfInBounds_toArray, List.set_cons_zero, List.set_cons_succ]
          refine wpAnyH_take (i := 11) (oi := { dst := some 10, op := Op.assign (Operand.tmp 34), type := 4, pos := "outright.go:115", after := #[{ on := 8, ground := Ground.data }, { on := 10, ground := Ground.chain }, { on := 0, ground := Ground.phase }, { on := 1, ground := Ground.phase }, { on := 2, ground := Ground.phase }, { on := 3, ground := Ground.phase }, { on := 4, ground := Ground.phase }, { on := 5, ground := Ground.phase }, { on := 6, ground := Ground.phase }, { on := 7, ground := Ground.phase }, { on := 8, ground := Ground.phase }, { on := 9, ground := Ground.phase }, { on := 10, ground := Ground.phase }], guard := none }) (v := ?_) rfl (by kernel_rfl) (by kernel_rfl) (by kernel_rfl) (fun _ _ _ h => h) (Or.inl ⟨by rfl, ?_⟩) (by assumption) ?_
          rotate_left
          · (intro wz hSw; (try dsimp only at hSw); go_simp; try with_reducible rfl)
          simp only [Act.put, List.setIfInBounds_toArray, List.set_cons_zero, List.set_cons_succ]
          refine wpAnyH_done (by kernel_rfl) ?_ _
          go_wp2_with fail
          go_meet
          have hset : ∀ a b c, Keeps (· = w4.heap.size) w5 (((w5.setCell ⟨w4.heap.size, 0, none⟩ a).setCell ⟨w4.heap.size, 1, none⟩ b).setCell ⟨w4.heap.size, 2, none⟩ c) := fun a b c => setsFrom_keeps w4.heap.size [a, b, c] 0 w5
          first | exact ⟨rfl, w5.heap.size, xb, cb, _, _, rfl, new_at w5 _ _ rfl, hkz.andAlloc _, (Keeps.alloc None w5 _).own hD2.ca (fun _ _ f => f)⟩ | exact ⟨rfl, w4.heap.size, xb, cb, _, _, rfl, (setCell_block (setCell_block (setCell_block hb9 _) _) _).trans rfl, hkz.trans (hset _ _ _) (fun i e hi => by omega), (hset _ _ _).own hD2.ca (fun k e e2 => by have h9 := hD2.nc k e; simp at h9; omega)⟩
        exact AllReadyH.nil
      exact AllReadyH.nil
    exact AllReadyH.nil
  case rest =>
    obtain ⟨rfl, D9, xb, cb, v1, v2, rfl, hb9, hk5, hcb⟩ := hcut
    obtain ⟨w6, hw6⟩ : ∃ w6, w6 = wc := ⟨_, rfl⟩
    subst hw6
    have hb7 := blkD HD1.out.2.1 hk5 (fun f => f)
    have hca := hk5.own HD1.out.1 (fun _ _ f => f)
    have hk6 := hk4.trans hk5 (fun _ f _ => f)
    have g0 := hk5.cell gs.1 (fun f => f)
    have g1 := hk5.cell gs.2.1 (fun f => f)
    have g2 := hk5.cell gs.2.2.1 (fun f => f)
    have g3 := hk5.cell gs.2.2.2.1 (fun f => f)
    have g4 := hk5.cell gs.2.2.2.2 (fun f => f)
    have d0 := (cell_of_block hb7 0).trans rfl
    have d1 := (cell_of_block hb9 0).trans rfl
    have hPS := ps_start F M th T (by have := HC.out.1; unfold CapOK at this; omega) (by have := HC.out.1; unfold CapOK at this; omega) (by have := HC.out.1; unfold CapOK at this; omega)
    rw [HSZ.out] at hPS
    have hPlen : P.length = PI.length := by rw [HPI.out, List.length_map]
    have hcutE : cutL (at_ : Int) (S1.calls.map Cal.cl) = S2.calls.map Cal.cl := by
      rw [cutL_cl, ← HSS.out.1, ← HSS.out.2.1, cut_picks (tc_start size F M th T) hPS P HC.out.2.2.1 (by have := HL.out.1; omega) at_ (by have := HL.out.2.1; omega)]
    have hcn1 : S1.calls.length ≤ 2000 := by have := HSS.out.2.2.cn; have := HL.out.1; omega
    have hseen1 := seen_calls rfl hca
    have hseen2 := seen_calls rfl hcb
    have hcn2 : S2.calls.length ≤ 2000 := by
      have := cutL_length (at_ : Int) (S1.calls.map Cal.cl)
      rw [hcutE, List.length_map, List.length_map] at this
      omega
    have hbeg := begun_ok4 F M ta pa xa T.length tc pc S1.calls.length ca th P S1.calls w6 hseen1 (by rw [← HPI.out]; exact Ints.kept HI2.out hk6) (by omega) (by have := HL.out.1; omega) (by have := HC.out.2.2.2; omega) (fun a ha hc i hi hj => by
      rw [← HSS.out.1, ← HSZ.out]
      exact begun_all (by have := HC.out.1; unfold CapOK at this; omega) (by have := HC.out.1; unfold CapOK at this; omega) (by have := HC.out.1; unfold CapOK at this; omega) P HC.out.2.2.1 (by have := HL.out.1; omega) a i (by rcases hc with h | h; exact .inl h; exact .inr (fun e => h (by rw [e]; rfl))) hi hj)
    rw [hPlen] at hbeg
    have hcut : ∀ w', Keeps None w6 w' → Calls Try.prog 13 #[.slice xa S1.calls.length ca, .int .i64 at_] w' fun e w'' => ∃ v', e = .returned v' ∧ w''.ownsRow w'.heap.size 45 7 v' S2.calls.length (clVals (S2.calls.map Cal.cl)) ∧ Keeps None w' w'' := fun w' hk =>
      (cut_ok xa S1.calls.length ca (S1.calls.map Cal.cl) at_ w' (hseen1.more hk) (by omega)).mono (fun e w'' h => by
        obtain ⟨v', e1, ho, hk2⟩ := h
        rw [hcutE, List.length_map] at ho
        exact ⟨v', e1, ho, hk2⟩)
    have hsame := fun w' (hk : Keeps None w6 w') ab cc (hx : Seen w' ab S2.calls.length (S2.calls.map Cal.cl)) => same_ok xb ab S2.calls.length cb cc (S2.calls.map Cal.cl) w' (hseen2.more hk) hx (by omega)
    have HE : Hid (Keeps None w w6) := ((HQ.out.1.trans HQ.out.2.1 (fun _ f _ => f)).trans hk6 (fun _ f _ => f))
    clear hk4 gs hG4 hG5 hb7 hb9 hk5 hca hcb hk6 hPS hPlen hcutE hseen1 hseen2 hplay2 HD1 HQ HL HC HW HSS HSZ HPI HI2 hcn1 hcn2
    go_wp2_with fail
    refine hbeg.mono ?_
    rintro e6 w7 ⟨rfl, hk7⟩
    have e0 := hk7.cell d0 (fun f => f)
    have e1 := hk7.cell d1 (fun f => f)
    have hs := And.intro e1 e0
    clear hbeg g0 g1 g2 g3 g4 d0 d1
    go_upto_region 7 with fail
    refine wp_region_held_drew (S := (fun w' => w'.cell? ⟨D9, 0, none⟩ = some (.slice xb S2.calls.length cb) ∧ w'.cell? ⟨D7, 0, none⟩ = some (.slice xa S1.calls.length ca))) (by kernel_rfl) ?_ (fun hHeld => ?_)
    · (try dsimp only); (first | with_reducible exact hs | with_reducible exact hs8 | with_reducible exact hs9 | go_keep)
    refine wpAnyH_take (i := 0) (oi := { dst := some 48, op := Op.fieldAddr 32 (Operand.tmp 9) 0, type := 0, pos := "outright.go:119", after := #[], guard := none }) (v := ?_) rfl (by kernel_rfl) (by kernel_rfl) (by kernel_rfl) (fun _ _ _ h => h) (Or.inl ⟨by rfl, ?_⟩) (by assumption) ?_
    rotate_left
    · (intro wz hSw; (try dsimp only at hSw); go_simp; try with_reducible rfl)
    simp only [Act.put, List.setIfInBounds_toArray, List.set_cons_zero, List.set_cons_succ]
    refine wpAnyH_take (i := 1) (oi := { dst := some 49, op := Op.load 28 (Operand.tmp 48), type := 28, pos := "outright.go:119", after := #[{ on := 0, ground := Ground.data }], guard := none }) (v := ?_) rfl (by kernel_rfl) (by kernel_rfl) (by kernel_rfl) (fun _ _ _ h => h) (Or.inl ⟨by rfl, ?_⟩) (by assumption) ?_
    rotate_left
    · (intro wz hSw; (try dsimp only at hSw); go_simp; try with_reducible rfl)
    simp only [Act.put, List.setIfInBounds_toArray, List.set_cons_zero, List.set_cons_succ]
    refine wpAnyH_take (i := 2) (oi := { dst := some 50, op := Op.fieldAddr 32 (Operand.tmp 7) 0, type := 0, pos := "outright.go:119", after := #[], guard := none }) (v := ?_) rfl (by kernel_rfl) (by kernel_rfl) (by kernel_rfl) (fun _ _ _ h => h) (Or.inl ⟨by rfl, ?_⟩) (by assumption) ?_
    rotate_left
    · (intro wz hSw; (try dsimp only at hSw); go_simp; try with_reducible rfl)
    simp only [Act.put, List.setIfInBounds_toArray, List.set_cons_zero, List.set_cons_succ]
    refine wpAnyH_take (i := 3) (oi := { dst := some 51, op := Op.load 28 (Operand.tmp 50), type := 28, pos := "outright.go:119", after := #[{ on := 2, ground := Ground.data }], guard := none }) (v := ?_) rfl (by kernel_rfl) (by kernel_rfl) (by kernel_rfl) (fun _ _ _ h => h) (Or.inl ⟨by rfl, ?_⟩) (by assumption) ?_
    rotate_left
    · (intro wz hSw; (try dsimp only at hSw); go_simp; try with_reducible rfl)
    simp only [Act.put, List.setIfInBounds_toArray, List.set_cons_zero, List.set_cons_succ]
    refine wpAnyH_take (i := 4) (oi := { dst := some 52, op := Op.move (Operand.tmp 6), type := 3, pos := "outright.go:119", after := #[], guard := none }) (v := ?_) rfl (by kernel_rfl) (by kernel_rfl) (by kernel_rfl) (fun _ _ _ h => h) (Or.inl ⟨by rfl, ?_⟩) (by assumption) ?_
    rotate_left
    · (intro wz hSw; (try dsimp only at hSw); go_simp; try with_reducible rfl)
    simp only [Act.put, List.setIfInBounds_toArray, List.set_cons_zero, List.set_cons_succ]
    refine wpAnyH_ready (rs := [5]) (by kernel_rfl) (by simp) ?_
    refine AllReadyH.cons (o := { dst := some 53, op := Op.call { callee := Callee.value (Operand.func 13), args := #[Operand.tmp 51, Operand.tmp 52], argTypes := #[28, 3] }, type := 28, pos := "outright.go:119", after := #[{ on := 3, ground := Ground.data }, { on := 4, ground := Ground.data }], guard := none }) rfl (fun K hK => ?_) ?_
    · go_simp
      refine (hcut _ (hk7.andDrew)).mono ?_
      rintro _ w8 ⟨vc, rfl, hoc, hk8⟩
      obtain ⟨xc, cc, hvc⟩ := own_shape hoc
      subst hvc
      have hk78 : Keeps None w7 w8 := (Keeps.drew None w7).trans hk8 (fun _ f _ => f)
      have hs8 := And.intro (hk78.cell e1 (fun f => f)) (hk78.cell e0 (fun f => f))
      refine hK.out _ _ ?_ (fun hHeld2 => ?_)
      · (try dsimp only); (first | with_reducible exact hs | with_reducible exact hs8 | with_reducible exact hs9 | go_keep)
      clear hK K
      try simp only [Act.put, List.setIfInBounds_toArray, List.set_cons_zero, List.set_cons_succ]
      refine wpAnyH_ready (rs := [6]) (by kernel_rfl) (by simp) ?_
      refine AllReadyH.cons (o := { dst := some 54, op := Op.call { callee := Callee.value (Operand.func 12), args := #[Operand.tmp 49, Operand.tmp 53], argTypes := #[28, 28] }, type := 4, pos := "outright.go:119", after := #[{ on := 1, ground := Ground.data }, { on := 5, ground := Ground.data }, { on := 5, ground := Ground.chain }], guard := none }) rfl (fun K hK => ?_) ?_
      · go_simp
        refine (hsame _ (hk7.trans hk78 (fun _ f _ => f)) xc cc (Seen.of_row (by simp) hoc)).mono ?_
        rintro _ w9 ⟨rfl, q9, hw9⟩
        have hk9 : Keeps None w8 w9 := by rw [hw9]; exact keeps_drewN4 None w8 q9
        have hs9 := And.intro (hk9.cell hs8.1 (fun f => f)) (hk9.cell hs8.2 (fun f => f))
        clear hw9
        refine hK.out _ _ ?_ (fun hHeld2 => ?_)
        · (try dsimp only); (first | with_reducible exact hs | with_reducible exact hs8 | with_reducible exact hs9 | go_keep)
        clear hK K
        try simp only [Act.put, List.setIfInBounds_toArray, List.set_cons_zero, List.set_cons_succ]
        refine wpAnyH_take (i := 7) (oi := { dst := some 4, op := Op.assign (Operand.tmp 54), type := 4, pos := "outright.go:119", after := #[{ on := 6, ground := Ground.data }, { on := 6, ground := Ground.chain }, { on := 0, ground := Ground.phase }, { on := 1, ground := Ground.phase }, { on := 2, ground := Ground.phase }, { on := 3, ground := Ground.phase }, { on := 4, ground := Ground.phase }, { on := 5, ground := Ground.phase }, { on := 6, ground := Ground.phase }], guard := none }) (v := ?_) rfl (by kernel_rfl) (by kernel_rfl) (by kernel_rfl) (fun _ _ _ h => h) (Or.inl ⟨by rfl, ?_⟩) (by assumption) ?_
        rotate_left
        · (intro wz hSw; (try dsimp only at hSw); go_simp; try with_reducible rfl)
        simp only [Act.put, List.setIfInBounds_toArray, List.set_cons_zero, List.set_cons_succ]
        refine wpAnyH_done (by kernel_rfl) ?_ _
        go_wp2_with fail
        go_ret
        exact ⟨rfl, ((((HE.out.trans hk7 (fun _ f _ => f)).trans hk78 (fun _ f _ => f)).trans hk9 (fun _ f _ => f)).below w.heap.size (Nat.le_refl _) (fun _ f => f.elim))⟩
      exact AllReadyH.nil
    exact AllReadyH.nil
end Go.Proofs.Ytaeooljfilkaeaa
