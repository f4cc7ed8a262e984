import Derived.Test.YtlligclkoecknaaFrCount
/-! FramesCount: the walk. -/
namespace Go.Proofs.Ytlligclkoecknaa
open Go.RowKit Go.HeapKit Go.IntWalk

section
variable {W0 wr : World} {p g X : Nat} {F : Nat → Prop} {B C : Ar} {o o' y : OpF}
theorem cstep (h : LawS W0 wr p g 1 F B) (hl : B.log = []) (ho : o.Fit) (hs : o.step B = (o', C)) :
    Calls Try.prog 11 #[.iface 24 (.pointer (some ⟨p, 0, none⟩)), o.value] wr fun e w' => e = .returned o'.value ∧ ∃ F', LawS W0 w' p g 1 F' C := by
  refine (fstep_any p F B o wr h.ar (by rw [hl]; decide) ho).mono ?_
  rintro e w' ⟨rfl, hA⟩
  rw [hs] at hA ⊢
  exact ⟨rfl, h.acc hA⟩
theorem cstepX (h : CntS W0 wr p g X y F B) (hl : B.log = []) (ho : o.Fit) (hs : o.step B = (o', C)) :
    Calls Try.prog 11 #[.iface 24 (.pointer (some ⟨p, 0, none⟩)), o.value] wr fun e w' => e = .returned o'.value ∧ ∃ F', CntS W0 w' p g X y F' C := by
  refine (fstep_any p F B o wr h.law.ar (by rw [hl]; decide) ho).mono ?_
  rintro e w' ⟨rfl, hA⟩
  rw [hs] at hA ⊢
  exact ⟨rfl, h.acc hA⟩
theorem CntS.cells8 (h : CntS W0 wr p g X o F B) : wr.cell? ⟨X, 0, none⟩ = some (.int .i64 o.base) ∧ wr.cell? ⟨X, 1, none⟩ = some (.int .i64 o.frames) ∧ wr.cell? ⟨X, 2, none⟩ = some (.int .i64 o.code) ∧ wr.cell? ⟨X, 3, none⟩ = some (.int .i64 o.kind) ∧ wr.cell? ⟨X, 4, none⟩ = some (.int .i64 o.made) ∧ wr.cell? ⟨X, 5, none⟩ = some (.int .i64 o.frame) ∧ wr.cell? ⟨X, 6, none⟩ = some (.int .i64 o.slot) ∧ wr.cell? ⟨X, 7, none⟩ = some (.int .i64 o.v) :=
  ⟨cell_of_block h.box 0, cell_of_block h.box 1, cell_of_block h.box 2, cell_of_block h.box 3, cell_of_block h.box 4, cell_of_block h.box 5, cell_of_block h.box 6, cell_of_block h.box 7⟩
end
theorem cbeg (k : Int) (sl : Nat) (v : Int) (h : sl < 8) : OpF.beg k 0 1 0 sl v = ⟨0, 1, 0, k, 0, 0, sl, v⟩ := beg_ok k 1 0 sl v (by omega) (by omega) (by omega) h
theorem cfork (w : World) : Calls Try.prog 12 #[.agg #[.int .i64 0, .int .i64 1], .int .i64 0] w fun e w' => e = .returned (forkO 1).value ∧ Keeps None w w' := by
  have h := newFork_any 0 1 0 w
  rw [show OpF.beg 1 0 1 0 0 0 = forkO 1 from cbeg 1 0 0 (by omega)] at h
  exact h
theorem csync (w : World) : Calls Try.prog 13 #[.agg #[.int .i64 0, .int .i64 1], .int .i64 0] w fun e w' => e = .returned (.agg #[.int .i64 0, .int .i64 1, .int .i64 0, .int .i64 3, .int .i64 0, .int .i64 0, .int .i64 0, .int .i64 0]) ∧ Keeps None w w' := by
  have h := newSync_any 0 1 0 w
  rw [show OpF.beg 3 0 1 0 0 0 = syncO 1 0 from cbeg 3 0 0 (by omega)] at h
  exact h
theorem cfin (j : Nat) (v : Int) (hj : j < 8) (w : World) : Calls Try.prog 14 #[.agg #[.int .i64 0, .int .i64 1], .int .i64 0, .int .i64 j, .int .i64 v] w fun e w' => e = .returned (finO 1 j 0 v).value ∧ Keeps None w w' := by
  have h := newFinish_any 0 1 0 j v w
  rw [show OpF.beg 2 0 1 0 j v = finO 1 j 0 v from cbeg 2 j v hj] at h
  exact h
theorem cfetch (j : Nat) (hj : j < 8) (w : World) : Calls Try.prog 15 #[.agg #[.int .i64 0, .int .i64 1], .int .i64 0, .int .i64 j] w fun e w' => e = .returned (fetchO 1 j).value ∧ Keeps None w w' := by
  have h := newFetch_any 0 1 0 j w
  rw [show OpF.beg 5 0 1 0 j 0 = fetchO 1 j from cbeg 5 j 0 hj] at h
  exact h
theorem cans (c v : Int) (hc : c ≠ 0) (w : World) : Calls Try.prog 10 #[(OpF.ended c v).value] w fun e w' => e = .returned (.tuple #[.int .i64 c, .int .i64 v]) ∧ Keeps None w w' := answer_end 0 0 c 0 0 0 0 v hc w
/-- Where the round stands behind the choice of its op. -/
def Chosen (W0 wx : World) (p g n i q : Nat) (uv : Nat → Int) (s14 s16 s17 s18 : Value) : Prop :=
  ∃ (c X : Nat) (o : OpF) (more last : Int) (F : Nat → Prop) (B : Ar) (sl : Nat → Int), s14 = .int .i64 c ∧ s16 = .pointer (some ⟨X, 0, none⟩) ∧ s17 = .int .i64 more ∧ s18 = .int .i64 last ∧
    c = (if i + 1 ≤ q then i + 1 else i) ∧ Leaves o more last ∧ CntS W0 wx p g X o F B ∧ CA (1 + (n : Int) - (i : Int)) sl B ∧ ∀ j, j < c → sl j = uv j
set_option maxHeartbeats 8000000 in
set_option maxRecDepth 100000 in
theorem framesCount_walk (a b : Int) (u0 u1 u2 u3 u4 u5 u6 u7 : Int) (w : World) :
    Calls Try.prog 3 #[.int .i64 a, .int .i64 b, .agg #[.int .i64 u0, .int .i64 u1, .int .i64 u2, .int .i64 u3, .int .i64 u4, .int .i64 u5, .int .i64 u6, .int .i64 u7]] w fun e w' => e = .returned (.bool true) ∧ Keeps None w w' := by
  have hm1 := mod8_any a 9 (by omega) (by omega)
  obtain ⟨n, hn⟩ : ∃ n : Nat, (n : Int) = a % (9 : Nat) := ⟨(a % (9 : Nat)).toNat, by omega⟩
  have hn8 : n ≤ 8 := by omega
  rw [← hn] at hm1
  have hm2 := mod8_any b (n + 1) (by omega) (by omega)
  have hz1 := Int.emod_nonneg b (show ((n + 1 : Nat) : Int) ≠ 0 by omega)
  have hz2 := Int.emod_lt_of_pos b (show (0 : Int) < ((n + 1 : Nat) : Int) by omega)
  obtain ⟨q, hq⟩ : ∃ k : Nat, (k : Int) = b % ((n + 1 : Nat) : Int) := ⟨(b % ((n + 1 : Nat) : Int)).toNat, by rw [Int.toNat_of_nonneg hz1]⟩
  have hqn : q ≤ n := by omega
  rw [← hq, show ((n + 1 : Nat) : Int) = (n : Int) + 1 by omega] at hm2
  have hcl := fcells_any 1
  rw [show cellsV 1 = 11 from rfl] at hcl
  clear hn hq hz1 hz2
  have j8 : (n : Int) ≤ 8 := by omega
  obtain ⟨W0, hW0⟩ : ∃ W0, W0 = w.alloc (.cells #[.int .i64 u0, .int .i64 u1, .int .i64 u2, .int .i64 u3, .int .i64 u4, .int .i64 u5, .int .i64 u6, .int .i64 u7] 22) := ⟨_, rfl⟩
  obtain ⟨uv, huv⟩ : ∃ uv : Nat → Int, ∀ j, j < 8 → W0.cell? ⟨w.heap.size, j, none⟩ = some (.int .i64 (uv j)) := by
    refine ⟨fun j => [u0, u1, u2, u3, u4, u5, u6, u7].getD j 0, fun j hj => ?_⟩
    rw [hW0, cell_of_block (new_at w _ _ rfl)]
    match j, hj with
    | 0, _ => rfl
    | 1, _ => rfl
    | 2, _ => rfl
    | 3, _ => rfl
    | 4, _ => rfl
    | 5, _ => rfl
    | 6, _ => rfl
    | 7, _ => rfl
  have HKW : Hid (Keeps None w W0) := by rw [hW0]; exact Keeps.alloc None w _
  go_enter Try.func3, Try.ntmps3
  go_upto_region 0 with fail
  go_cut [5, 6] (fun s5 s6 wx => s5 = .pointer (some ⟨w.heap.size, 0, none⟩) ∧ wx = W0)
  case first =>
    clear huv hm1 hm2 hcl
    go_wp2_with fail
    go_meet
    exact ⟨rfl, hW0.symm⟩
  case rest =>
    obtain ⟨rfl, hwc⟩ := hcut
    subst hwc
    clear hW0
    have HV : Hid (∀ j, j < 8 → wc.cell? ⟨w.heap.size, j, none⟩ = some (.int .i64 (uv j))) := huv
    clear huv
    have hVs : w.heap.size < wc.heap.size := by
      have h0 := HV.out 0 (by omega)
      cases hb : wc.heap[w.heap.size]? with
      | none => simp [World.cell?, hb] at h0
      | some o => exact (Array.getElem?_eq_some_iff.1 hb).1
    generalize w.heap.size = V at HV hVs ⊢
    obtain ⟨W0, hW⟩ : ∃ W0, W0 = wc := ⟨_, rfl⟩
    subst hW
    go_wp2_with fail
    refine (hm1 _).mono ?_
    rintro e w1 ⟨rfl, hw1⟩
    have hv1 := hw1.symm
    subst hv1
    clear hw1 hm1
    go_wp2_with fail
    refine (hm2 _).mono ?_
    rintro e w1 ⟨rfl, hw1⟩
    have hv1 := hw1.symm
    subst hv1
    clear hw1 hm2
    go_wp2_with fail
    refine (hcl _).mono ?_
    rintro e w1 ⟨rfl, hw1⟩
    have hv1 := hw1.symm
    subst hv1
    clear hw1 hcl
    go_wp2_with fail
    refine (newA_as _ (1 + 10 * 1) (by omega) (by omega) _).mono ?_
    rintro e w2 ⟨rfl, F2, hF2, hk2', hf2⟩
    have hnew := fnew_fresh W0.heap.size F2 1 w2 hF2 ⟨by omega, by omega⟩
    have H2 : Hid _ := And.intro hk2' hf2
    clear hF2 hk2' hf2
    go_wp2_with fail
    refine hnew.mono ?_
    rintro e w3 ⟨rfl, F3, hF3, hk3, hf3⟩
    have HL : Hid (LawS W0 (w3.alloc (.cells #[.int .i64 0, .int .i64 1] 30)) W0.heap.size w3.heap.size 1 F3 (tabA 1)) := by
      obtain ⟨h1, h2⟩ := H2.out
      have hs := h1.size
      refine ⟨hF3.kept (Keeps.alloc None w3 _) (fun _ _ f => f), (h1.trans hk3 (fun i f hi => by have := h2 i f; omega)).andAlloc _, fun k f => ?_, new_at w3 _ _ rfl, fun f => by have := hF3.lt f; omega⟩
      rcases hf3 k f with f | f
      · exact h2 k f
      · omega
    clear hF3 hk3 hf3 H2 hnew
    go_wp2_with fail
    go_loopw [11] (fun s11 wr => ∃ i : Nat, i ≤ n ∧ s11 = .int .i64 i ∧ ∃ F B, LawS W0 wr W0.heap.size w3.heap.size 1 F B ∧ CA (1 + (i : Int)) (fun _ => 0) B) (fun s11 _ => n - (intOf s11).toNat)
    case atStart => exact ⟨0, Nat.zero_le _, rfl, F3, tabA 1, HL.out, CA.start⟩
    case round =>
      obtain ⟨i, hi, rfl, F4, B, hL4, hB⟩ := hrel
      generalize w3.heap.size = g at *
      by_cases hik : i < n
      · have i1 : (i : Int) < (n : Int) := by omega
        obtain ⟨C, hst, hC⟩ := hB.fork (by omega) (by omega)
        have hstp := fun w' (h : LawS W0 w' W0.heap.size g 1 F4 B) => cstep h hB.log (fit_run 1 0 0 0 (by omega) (by omega) (by omega)) hst
        obtain ⟨t0, t1⟩ := hL4.cells
        have HL4 : Hid _ := hL4
        have HC : Hid _ := hC
        have HB : Hid _ := hB
        clear hL4 hst hC hB HL
        go_wp2_with fail
        refine (cfork _).mono ?_
        rintro e w5 ⟨rfl, hk5⟩
        have hL5 := HL4.out.kept hk5
        go_wp2_with fail
        refine (hstp _ hL5).mono ?_
        rintro e w6 ⟨rfl, F6, hL6⟩
        have HL6 : Hid _ := hL6
        clear hL5 hL6 hk5 HL4 hstp
        go_wp2_with fail
        refine (cans 9 (1 + (i : Int) + 1) (by decide) _).mono ?_
        rintro e w7 ⟨rfl, hk7⟩
        have HL7 : Hid _ := HL6.out.kept hk7
        clear hk7 HL6
        have hx : 1 + (i : Int) + 1 = (i : Int) + 2 := by omega
        rw [hx]
        clear hx
        go_wp2_with fail
        go_roundw
        case rel => exact ⟨i + 1, by omega, by go_num, F6, C, HL7.out, by have := HC.out; rw [show (1 + ((i + 1 : Nat) : Int)) = 1 + (i : Int) + 1 by omega]; exact this⟩
        case measure => simp only [intOf]; omega
      · have i1 : ¬ (i : Int) < (n : Int) := by omega
        obtain rfl : i = n := by omega
        have HL4 : Hid _ := hL4
        have HB : Hid _ := hB
        clear hL4 hB HL
        go_wp2_with fail
        go_loopw [14, 15] (fun s14 s15 wr => ∃ k c : Nat, k ≤ i + 1 ∧ s14 = .int .i64 c ∧ s15 = .int .i64 k ∧ c = (if k ≤ q then k else k - 1) ∧ ∃ F B sl, LawS W0 wr W0.heap.size g 1 F B ∧ CA (if k = i + 1 then 1 else 1 + (i : Int) - (k : Int)) sl B ∧ ∀ j, j < c → sl j = uv j) (fun _ s15 _ => i + 1 - (intOf s15).toNat)
        case atStart => exact ⟨0, 0, by omega, rfl, rfl, by simp, F4, B, fun _ => 0, HL4.out, by rw [if_neg (by omega)]; have := HB.out; simpa using this, fun j hj => by omega⟩
        case round =>
          obtain ⟨k, c, hk, rfl, rfl, hc, F5, B5, sl, hL5, hB5, hsl⟩ := hrel
          clear HL4 HB
          by_cases hki : k ≤ i
          · have i2 : (k : Int) ≤ (i : Int) := by omega
            rw [if_neg (by omega)] at hB5
            obtain ⟨t0, t1⟩ := hL5.cells
            have HL5 : Hid _ := hL5
            have HB5 : Hid _ := hB5
            have HS : Hid _ := And.intro hc hsl
            have hc8 : c ≤ 8 := by rw [hc]; split <;> omega
            clear hL5 hB5 hc hsl
            go_upto_region 19 with fail
            go_cut [16] (fun s16 wx => ∃ X, s16 = .pointer (some ⟨X, 0, none⟩) ∧ CntS W0 wx W0.heap.size g X (syncO 1 0) F5 B5)
            case first =>
              go_wp2_with fail
              refine (csync _).mono ?_
              rintro e w6 ⟨rfl, hk6⟩
              have hX : CntS W0 (w6.alloc (.cells #[.int .i64 0, .int .i64 1, .int .i64 0, .int .i64 3, .int .i64 0, .int .i64 0, .int .i64 0, .int .i64 0] 39)) W0.heap.size g w6.heap.size (syncO 1 0) F5 B5 := by
                have h1 := HL5.out.kept hk6
                exact ⟨h1.kept (Keeps.alloc None w6 _), new_at w6 _ _ rfl, h1.kp.size, fun f => by have := h1.ar.lt f; omega⟩
              have HX : Hid _ := hX
              clear hX hk6
              go_wp2_with fail
              go_meet
              exact ⟨_, rfl, HX.out⟩
            case rest =>
              obtain ⟨X, rfl, hX⟩ := hcut
              have HX : Hid _ := hX
              have HVX : ¬ V = X := fun e => by have := hX.lo; omega
              clear HL5 t0 t1
              go_upto_if 80 with fail
              go_cut [14, 16, 17, 18] (fun s14 s16 s17 s18 wx => Chosen W0 wx W0.heap.size g i k q uv s14 s16 s17 s18)
              case first =>
                by_cases hkq : k = q
                · have HQ : Hid _ := hkq
                  have b1 : ((k : Int) == (q : Int)) = true := by simp [hkq]
                  clear hkq hX
                  go_wp2_with fail
                  go_meet
                  exact ⟨c, X, syncO 1 0, 12, 13, F5, B5, sl, rfl, rfl, rfl, rfl, by have h1 := HS.out.1; have h2 := HQ.out; rw [if_pos (by omega)] at h1; rw [if_neg (by omega)]; exact h1, leaves_sync, HX.out, HB5.out, HS.out.2⟩
                · have hc8' : c < 8 := by have h1 := HS.out.1; rw [h1]; split <;> omega
                  have b1 : ((k : Int) == (q : Int)) = false := by simp; omega
                  have HQ : Hid _ := hkq
                  have j14 : (c : Int) < 8 := by omega
                  obtain ⟨t0, t1⟩ := hX.law.cells
                  have y0 := hX.law.kp.cell (HV.out c hc8') (fun f => f)
                  clear hkq hX
                  obtain ⟨C6, hst6, hC6⟩ := HB5.out.store c (uv c) hc8'
                  have HC6 : Hid _ := hC6
                  have hlg := HB5.out.log
                  have ne1 : ¬ g = X := fun e => HX.out.ne e.symm
                  have ne2 : ¬ V = X := HVX
                  have ne3 : ¬ X = g := fun e => HX.out.ne e
                  have ne4 : ¬ X = V := fun e => HVX e.symm
                  have hstp : ∀ w', CntS W0 w' W0.heap.size g X (syncO 1 0) F5 B5 → Calls Try.prog 11 #[.iface 24 (.pointer (some ⟨W0.heap.size, 0, none⟩)), (finO 1 c 0 (uv c)).value] w' fun e w'' => e = .returned (.agg #[.int .i64 0, .int .i64 1, .int .i64 0, .int .i64 2, .int .i64 1, .int .i64 0, .int .i64 c, .int .i64 (uv c)]) ∧ ∃ F', CntS W0 w'' W0.heap.size g X (syncO 1 0) F' C6 :=
                    fun w' h => cstepX h hlg (fit_run 2 0 c (uv c) (by omega) (by omega) hc8') hst6
                  clear hst6 hC6 hlg
                  go_upto_region 23 with fail
                  go_cut [89] (fun s89 wx => ∃ F6, CntS W0 wx W0.heap.size g X (finO 1 c 1 (uv c)) F6 C6)
                  case first =>
                    go_region_held3 (fun w' => w'.cell? ⟨g, 0, none⟩ = some (.int .i64 0) ∧ w'.cell? ⟨g, 1, none⟩ = some (.int .i64 1) ∧ w'.cell? ⟨V, c, none⟩ = some (.int .i64 (uv c)))
                      (first | with_reducible exact hS7 | with_reducible exact hS6 | with_reducible exact hS5 | go_keep)
                      (first
                        | (go_at_call 14; refine (cfin c _ hc8' _).mono ?_; rintro e w5 ⟨rfl, hk5⟩; have hX5 := (HX.out.kept (Keeps.drew None _)).kept hk5; have hS5 := And.intro hX5.law.cells.1 (And.intro hX5.law.cells.2 (hX5.law.kp.cell (HV.out c hc8') (fun f => f))))
                        | (go_at_call 11; refine (hstp _ hX5).mono ?_; rintro e w6 ⟨rfl, F6, hX6⟩; have hS6 := And.intro hX6.law.cells.1 (And.intro hX6.law.cells.2 (hX6.law.kp.cell (HV.out c hc8') (fun f => f))); obtain ⟨x0, x1, x2, x3, x4, x5, x6, x7⟩ := hX6.cells8; obtain ⟨q0, q1, q2, q3, q4, q5, q6, q7⟩ := free8 hX6.box; have hk7 := opf_set rfl hX6.box (.int .i64 0) (.int .i64 1) (.int .i64 0) (.int .i64 2) (.int .i64 1) (.int .i64 0) (.int .i64 c) (.int .i64 (uv c)); have hS7 := And.intro (hk7.2.cell hS6.1 ne1) (And.intro (hk7.2.cell hS6.2.1 ne1) (hk7.2.cell hS6.2.2 ne2))))
                    all_goals (go_wp2_with fail; go_meet)
                    all_goals exact ⟨F6, hX6.set hk7.2 hk7.1⟩
                  case rest =>
                    obtain ⟨F6, hX7⟩ := hcut
                    have HX7 : Hid _ := hX7
                    clear hX7 t0 t1 y0 hstp ne1 ne2 ne3 ne4
                    go_wp2_with fail
                    go_meet
                    refine ⟨c + 1, X, finO 1 c 1 (uv c), 10, 11, F6, C6, upd sl c (uv c), by go_num, rfl, rfl, rfl, ?_, leaves_fin c (uv c) hc8', HX7.out, HC6.out, fun j hj => ?_⟩
                    · have h1 := HS.out.1
                      have h2 : ¬ k = q := HQ.out
                      by_cases h3 : k ≤ q
                      · rw [if_pos h3] at h1; rw [if_pos (by omega)]; omega
                      · rw [if_neg h3] at h1; rw [if_neg (by omega)]; omega
                    · unfold upd
                      split
                      · rename_i e; rw [e]
                      · exact HS.out.2 j (by omega)
              case rest =>
                obtain ⟨c', X', o, more, last, F6, B6, sl6, rfl, rfl, rfl, rfl, hc6, hlv, hX6, hB6, hsl6⟩ := hcut
                clear HX HVX HB5 HS hX
                obtain ⟨hfit, hm0, hl0, o2, hfit2, hc2, hf2, hgo, hgo2⟩ := hlv
                obtain ⟨C, hst, hC⟩ := hgo _ _ _ hB6 (by omega) (by omega)
                obtain ⟨e2, hst2, hC2⟩ := hgo2 _ _ _ hC
                obtain ⟨o0, o1, o2', o3, o4, o5, o6, o7⟩ := o
                by_cases hlast : k < i
                · have i3 : (k : Int) < (i : Int) := by omega
                  have b3 : ((k : Int) == (i : Int)) = false := by simp; omega
                  rw [if_neg (by omega), show 1 + (i : Int) - (k : Int) - 1 = (i : Int) - (k : Int) by omega] at hst
                  rw [show 1 + (i : Int) - (k : Int) - 1 = (i : Int) - (k : Int) by omega] at hC
                  have hstp : ∀ w', CntS W0 w' W0.heap.size g X' ⟨o0, o1, o2', o3, o4, o5, o6, o7⟩ F6 B6 → Calls Try.prog 11 #[.iface 24 (.pointer (some ⟨W0.heap.size, 0, none⟩)), .agg #[.int .i64 o0, .int .i64 o1, .int .i64 o2', .int .i64 o3, .int .i64 o4, .int .i64 o5, .int .i64 o6, .int .i64 o7]] w' fun e w'' => e = .returned (.agg #[.int .i64 0, .int .i64 0, .int .i64 more, .int .i64 0, .int .i64 0, .int .i64 0, .int .i64 0, .int .i64 ((i : Int) - (k : Int))]) ∧ ∃ F', CntS W0 w'' W0.heap.size g X' ⟨o0, o1, o2', o3, o4, o5, o6, o7⟩ F' C :=
                    fun w' h => cstepX h hB6.log hfit hst
                  have hca := cans more ((i : Int) - (k : Int)) hm0
                  obtain ⟨d0, d1, d2, d3, d4, d5, d6, d7⟩ := hX6.cells8
                  simp only at d0 d1 d2 d3 d4 d5 d6 d7
                  have HX6 : Hid _ := hX6
                  have HC : Hid _ := And.intro hC (And.intro hc6 hsl6)
                  clear hX6 hB6 hC hst hst2 hC2 hgo hgo2 hfit hfit2 hc2 hf2 hm0 hl0 hc6 hsl6
                  go_upto_region 27 with fail
                  go_cut [95] (fun s95 wx => ∃ F7, CntS W0 wx W0.heap.size g X' (OpF.ended more ((i : Int) - (k : Int))) F7 C)
                  case first =>
                    go_wp2_with fail
                    refine (hstp _ HX6.out).mono ?_
                    rintro e w7 ⟨rfl, F7, hX7⟩
                    obtain ⟨x0, x1, x2, x3, x4, x5, x6, x7⟩ := hX7.cells8
                    obtain ⟨q0, q1, q2, q3, q4, q5, q6, q7⟩ := free8 hX7.box
                    have HX7 : Hid _ := hX7
                    clear hX7 hstp d0 d1 d2 d3 d4 d5 d6 d7
                    go_wp2_with fail
                    go_meet
                    have hk7 := opf_set rfl HX7.out.box (.int .i64 0) (.int .i64 0) (.int .i64 more) (.int .i64 0) (.int .i64 0) (.int .i64 0) (.int .i64 0) (.int .i64 ((i : Int) - (k : Int)))
                    exact ⟨F7, HX7.out.set hk7.2 hk7.1⟩
                  case rest =>
                    obtain ⟨F7, hX7⟩ := hcut
                    obtain ⟨x0, x1, x2, x3, x4, x5, x6, x7⟩ := hX7.cells8
                    simp only [OpF.ended] at x0 x1 x2 x3 x4 x5 x6 x7
                    have HX7 : Hid _ := hX7
                    clear hX7 hstp d0 d1 d2 d3 d4 d5 d6 d7 HX6
                    go_wp2_with fail
                    refine (hca _).mono ?_
                    rintro e w8 ⟨rfl, hk8⟩
                    have HX8 : Hid _ := HX7.out.kept hk8
                    clear hk8 HX7 x0 x1 x2 x3 x4 x5 x6 x7 hca
                    go_wp2_with fail
                    go_roundw
                    case rel => exact ⟨k + 1, c', by omega, rfl, by go_num, by have := HC.out.2.1; simpa using this, F7, C, sl6, HX8.out.law, by rw [if_neg (by omega)]; have := HC.out.1; rw [show 1 + (i : Int) - ((k + 1 : Nat) : Int) = (i : Int) - (k : Int) by omega]; exact this, HC.out.2.2⟩
                    case measure => simp only [intOf]; omega
                · obtain rfl : k = i := by omega
                  rw [if_pos (by omega)] at hst
                  obtain ⟨p0, p1, p2, p3, p4, p5, p6, p7⟩ := o2
                  simp only at hc2 hf2
                  subst hc2
                  have hstp : ∀ w', CntS W0 w' W0.heap.size g X' ⟨o0, o1, o2', o3, o4, o5, o6, o7⟩ F6 B6 → Calls Try.prog 11 #[.iface 24 (.pointer (some ⟨W0.heap.size, 0, none⟩)), .agg #[.int .i64 o0, .int .i64 o1, .int .i64 o2', .int .i64 o3, .int .i64 o4, .int .i64 o5, .int .i64 o6, .int .i64 o7]] w' fun e w'' => e = .returned (.agg #[.int .i64 p0, .int .i64 p1, .int .i64 0, .int .i64 p3, .int .i64 p4, .int .i64 p5, .int .i64 p6, .int .i64 p7]) ∧ ∃ F', CntS W0 w'' W0.heap.size g X' ⟨o0, o1, o2', o3, o4, o5, o6, o7⟩ F' C :=
                    fun w' h => cstepX (o := ⟨o0, o1, o2', o3, o4, o5, o6, o7⟩) (o' := ⟨p0, p1, 0, p3, p4, p5, p6, p7⟩) h hB6.log hfit hst
                  have hstp2 : ∀ w' F7, CntS W0 w' W0.heap.size g X' ⟨p0, p1, 0, p3, p4, p5, p6, p7⟩ F7 C → Calls Try.prog 11 #[.iface 24 (.pointer (some ⟨W0.heap.size, 0, none⟩)), .agg #[.int .i64 p0, .int .i64 p1, .int .i64 0, .int .i64 p3, .int .i64 p4, .int .i64 p5, .int .i64 p6, .int .i64 p7]] w' fun e w'' => e = .returned (OpF.ended last 0).value ∧ ∃ F', CntS W0 w'' W0.heap.size g X' ⟨p0, p1, 0, p3, p4, p5, p6, p7⟩ F' e2 :=
                    fun w' F7 h => cstepX (o := ⟨p0, p1, 0, p3, p4, p5, p6, p7⟩) (o' := OpF.ended last 0) h hC.log hfit2 hst2
                  have hca : ∀ w, Calls Try.prog 10 #[.agg #[.int .i64 p0, .int .i64 p1, .int .i64 0, .int .i64 p3, .int .i64 p4, .int .i64 p5, .int .i64 p6, .int .i64 p7]] w fun e w' => e = .returned (.tuple #[.int .i64 0, .int .i64 0]) ∧ Keeps None w w' := answer_run p0 p1 p3 p4 p5 p6 p7 hf2
                  have hca2 := cans last 0 hl0
                  obtain ⟨d0, d1, d2, d3, d4, d5, d6, d7⟩ := hX6.cells8
                  simp only at d0 d1 d2 d3 d4 d5 d6 d7
                  have HX6 : Hid _ := hX6
                  have HC : Hid _ := And.intro hC2 (And.intro hc6 hsl6)
                  clear hX6 hB6 hC hst hst2 hC2 hgo hgo2 hfit hfit2 hf2 hm0 hl0 hc6 hsl6
                  go_upto_region 27 with fail
                  go_cut [95] (fun s95 wx => ∃ F7, CntS W0 wx W0.heap.size g X' ⟨p0, p1, 0, p3, p4, p5, p6, p7⟩ F7 C)
                  case first =>
                    go_wp2_with fail
                    refine (hstp _ HX6.out).mono ?_
                    rintro e w7 ⟨rfl, F7, hX7⟩
                    obtain ⟨x0, x1, x2, x3, x4, x5, x6, x7⟩ := hX7.cells8
                    obtain ⟨q0, q1, q2, q3, q4, q5, q6, q7⟩ := free8 hX7.box
                    have HX7 : Hid _ := hX7
                    clear hX7 hstp d0 d1 d2 d3 d4 d5 d6 d7
                    go_wp2_with fail
                    go_meet
                    have hk7 := opf_set rfl HX7.out.box (.int .i64 p0) (.int .i64 p1) (.int .i64 0) (.int .i64 p3) (.int .i64 p4) (.int .i64 p5) (.int .i64 p6) (.int .i64 p7)
                    exact ⟨F7, HX7.out.set hk7.2 hk7.1⟩
                  case rest =>
                    obtain ⟨F7, hX7⟩ := hcut
                    obtain ⟨x0, x1, x2, x3, x4, x5, x6, x7⟩ := hX7.cells8
                    simp only at x0 x1 x2 x3 x4 x5 x6 x7
                    have HX7 : Hid _ := hX7
                    clear hX7 hstp d0 d1 d2 d3 d4 d5 d6 d7 HX6
                    go_wp2_with fail
                    refine (hca _).mono ?_
                    rintro e w8 ⟨rfl, hk8⟩
                    have hX8 := HX7.out.kept hk8
                    have hs8 := hstp2 _ _ hX8
                    clear hk8 HX7 x0 x1 x2 x3 x4 x5 x6 x7 hca hstp2
                    obtain ⟨x0, x1, x2, x3, x4, x5, x6, x7⟩ := hX8.cells8
                    simp only at x0 x1 x2 x3 x4 x5 x6 x7
                    clear hX8
                    go_wp2_with fail
                    refine hs8.mono ?_
                    rintro e w9 ⟨rfl, F9, hX9⟩
                    have HX9 : Hid _ := hX9
                    clear hX9 hs8 x0 x1 x2 x3 x4 x5 x6 x7
                    go_wp2_with fail
                    refine (hca2 _).mono ?_
                    rintro e w10 ⟨rfl, hk10⟩
                    have HX10 : Hid _ := HX9.out.kept hk10
                    clear hk10 HX9 hca2
                    go_wp2_with fail
                    go_roundw
                    case rel => exact ⟨k + 1, c', by omega, rfl, by go_num, by have := HC.out.2.1; simpa using this, F9, e2, sl6, HX10.out.law, by rw [if_pos rfl]; exact HC.out.1, HC.out.2.2⟩
                    case measure => simp only [intOf]; omega
          · have i2 : ¬ (k : Int) ≤ (i : Int) := by omega
            obtain rfl : k = i + 1 := by omega
            rw [if_pos rfl] at hB5
            have hci : c = i := by rw [hc, if_neg (by omega)]; omega
            subst hci
            have HL5 : Hid _ := hL5
            have HB5 : Hid _ := hB5
            have HSL : Hid _ := hsl
            clear hL5 hB5 hsl hc
            go_wp2_with fail
            go_loopw [21] (fun s21 wr => ∃ m : Nat, m ≤ c ∧ s21 = .int .i64 m ∧ ∃ F B, LawS W0 wr W0.heap.size g 1 F B ∧ CA 1 sl B) (fun s21 _ => c - (intOf s21).toNat)
            case atStart => exact ⟨0, Nat.zero_le _, rfl, F5, B5, HL5.out, HB5.out⟩
            case round =>
              obtain ⟨m, hm, rfl, F6, B6, hL6, hB6⟩ := hrel
              clear HL5 HB5
              by_cases hmc : m < c
              · have i3 : (m : Int) < (c : Int) := by omega
                obtain ⟨C, hst, hC⟩ := hB6.fetch m (by omega)
                rw [HSL.out m hmc] at hst
                have hstp := fun w' (h : LawS W0 w' W0.heap.size g 1 F6 B6) => cstep h hB6.log (fit_run 5 0 m 0 (by omega) (by omega) (by omega)) hst
                have hcf := cfetch m (by omega)
                obtain ⟨t0, t1⟩ := hL6.cells
                have HL6 : Hid _ := hL6
                have HC : Hid _ := hC
                have hm8 : (m : Int) < 8 := by omega
                clear hL6 hst hC hB6
                go_wp2_with fail
                refine (hcf _).mono ?_
                rintro e w7 ⟨rfl, hk7⟩
                have hL7 := HL6.out.kept hk7
                go_wp2_with fail
                refine (hstp _ hL7).mono ?_
                rintro e w8 ⟨rfl, F8, hL8⟩
                have HL8 : Hid _ := hL8
                clear hL7 hL8 hk7 HL6 hstp t0 t1
                go_wp2_with fail
                refine (cans 15 (uv m) (by decide) _).mono ?_
                rintro e w9 ⟨rfl, hk9⟩
                have HL9 : Hid _ := HL8.out.kept hk9
                have y0 := HL9.out.kp.cell (HV.out m (by omega)) (fun f => f)
                clear hk9 HL8
                go_wp2_with fail
                go_roundw
                case rel => exact ⟨m + 1, by omega, by go_num, F8, C, HL9.out, HC.out⟩
                case measure => simp only [intOf]; omega
              · have i3 : ¬ (m : Int) < (c : Int) := by omega
                have HE : Hid (Keeps None w _) := HKW.out.trans hL6.kp (fun _ f _ => f)
                clear hL6 hB6
                go_wp2_with fail
                go_ret
                exact ⟨rfl, HE.out⟩
end Go.Proofs.Ytlligclkoecknaa
