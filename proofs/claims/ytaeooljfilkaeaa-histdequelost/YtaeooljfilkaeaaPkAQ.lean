import Derived.Test.YtaeooljfilkaeaaPkAP
/-! fit, walked. -/
namespace Go.Proofs.Ytaeooljfilkaeaa
set_option linter.unusedVariables false
set_option maxRecDepth 20000
set_option linter.unusedSimpArgs false
open Go.RowKit Go.HeapKit Go.IntWalk Go.PlainOps

def fitF (f : Int) : Nat := 1 + mdN f 8
def fitM (f m : Int) : Nat := fitF f + mdN m 8
def fitT (l : List Tod) : List Tod := l.map (fun t => ⟨(mdN t.kind 2 : Nat), t.v⟩)
def fitP (t : Int) (z : List Int) : List Nat := z.map (fun x => mdN x (1 + mdN t 4))
theorem fits_start {w wA : World} {gx : Array Value} {f1 t1 : Int} (hk0 : Keeps None w wA) (hX : wA.heap[w.heap.size]? = some (.cells gx 25 (0, 0))) (hR : wA.heap[w.heap.size + 1]? = some (.cells #[.int .i64 0, .int .i64 0, .slice none 0 0, .int .i64 0, .slice none 0 0] 25 (0, 0))) (hs : wA.heap.size = w.heap.size + 2) :
    FitS w (wA.alloc (.cells #[.int .i64 f1, .int .i64 0, .slice none 0 0, .int .i64 t1, .slice none 0 0] 25)).drew w.heap.size wA.heap.size (w.heap.size + 1) gx f1 0 t1 (.slice none 0 0) (.slice none 0 0) [] [] := by
  have hk : Keeps None wA (wA.alloc (.cells #[.int .i64 f1, .int .i64 0, .slice none 0 0, .int .i64 t1, .slice none 0 0] 25)).drew := ((Keeps.refl None wA).andAlloc _).andDrew
  exact ⟨blkD hX hk (fun f => f), blkD (new_at wA _ _ rfl) (Keeps.drew None _) (fun f => f), blkD hR hk (fun f => f), hk0.trans hk (fun _ f _ => f), World.ownsRow_nil _ _ _ _, World.ownsRow_nil _ _ _ _, by omega, by omega, Nat.le_refl _, by omega, by omega, fun k e => by simp [Value.ownBlock] at e, fun k e => by simp [Value.ownBlock] at e⟩
theorem FitS.setM {w wr : World} {X Hb R : Nat} {gx : Array Value} {f1 m1 t1 : Int} {vT vP : Value} {T : List Tod} {P : List Int} (h : FitS w wr X Hb R gx f1 m1 t1 vT vP T P) (m2 : Int) : FitS w (wr.setCell ⟨Hb, 1, none⟩ (.int .i64 m2)) X Hb R gx f1 m2 t1 vT vP T P := by
  have hk : Keeps (· = Hb) wr (wr.setCell ⟨Hb, 1, none⟩ (.int .i64 m2)) := Keeps.setCell (S := (· = Hb)) wr (a := ⟨Hb, 1, none⟩) rfl _
  exact ⟨blkD h.hX hk (fun e => h.nXH e), (setCell_block h.hH _).trans rfl, blkD h.hR hk (fun e => h.nRH e), h.kp.trans hk (fun i e hi => by have := h.lH; omega), hk.own h.oT (fun k e e2 => absurd (own_type h.oT (e2 ▸ e) h.hH) (by decide)), hk.own h.oP (fun k e e2 => absurd (own_type h.oP (e2 ▸ e) h.hH) (by decide)), h.nXH, h.nRH, h.lX, h.lH, h.lR, h.lT, h.lP⟩
theorem FitS.cs {w wr : World} {X Hb R : Nat} {gx : Array Value} {f1 m1 t1 : Int} {vT vP : Value} {T : List Tod} {P : List Int} (h : FitS w wr X Hb R gx f1 m1 t1 vT vP T P) : (wr.cell? ⟨Hb, 0, none⟩ = some (.int .i64 f1) ∧ wr.cell? ⟨Hb, 1, none⟩ = some (.int .i64 m1) ∧ wr.cell? ⟨Hb, 2, none⟩ = some vT ∧ wr.cell? ⟨Hb, 3, none⟩ = some (.int .i64 t1) ∧ wr.cell? ⟨Hb, 4, none⟩ = some vP) ∧ ∀ i, wr.frozen? ⟨Hb, i, none⟩ = false :=
  ⟨⟨(cell_of_block h.hH 0).trans rfl, (cell_of_block h.hH 1).trans rfl, (cell_of_block h.hH 2).trans rfl, (cell_of_block h.hH 3).trans rfl, (cell_of_block h.hH 4).trans rfl⟩, fun i => free_of_block h.hH i⟩
theorem fitT_more {l : List Tod} {i : Nat} {x : Tod} (h : l[i]? = some x) : fitT (l.take (i + 1)) = fitT (l.take i) ++ [⟨(mdN x.kind 2 : Nat), x.v⟩] := by
  obtain ⟨h1, h2⟩ := List.getElem?_eq_some_iff.1 h
  rw [List.take_succ_eq_append_getElem h1, h2]
  simp [fitT]
theorem fitP_more {t : Int} {l : List Int} {i : Nat} {x : Int} (h : l[i]? = some x) : (fitP t (l.take (i + 1))).map (fun x : Nat => (x : Int)) = (fitP t (l.take i)).map (fun x : Nat => (x : Int)) ++ [((mdN x (1 + mdN t 4) : Nat) : Int)] := by
  obtain ⟨h1, h2⟩ := List.getElem?_eq_some_iff.1 h
  rw [List.take_succ_eq_append_getElem h1, h2]
  simp [fitP]
structure FitQ (w w' : World) (vT vP : Value) (T : List Tod) (P : List Int) : Prop where
  kp : Keeps None w w'
  oT : w'.ownsRow 0 55 2 vT T.length (rowVals Tod.vals T)
  oP : w'.ownsRow 0 3 1 vP P.length (P.map (Value.int .i64))
  lT : ∀ k, vT.ownBlock = some k → w.heap.size ≤ k
  lP : ∀ k, vP.ownBlock = some k → w.heap.size ≤ k
/-- The end of a function whose result is a game. -/
theorem game_end {Q : Ending → World → Prop} {a : Act} {w1 : World} {g : Nat} {c : Array Value} {t : TypeId} {fn : Func} (q : Tmp) (hfn : fn.results = #[.cell q 25]) (hc : c.size = 5) (hb : w1.heap[g]? = some (.cells c t (0, 0)))
    (ha : a.tmps.getD q undef = .pointer (some ⟨g, 0, none⟩)) (hd : a.defers = []) (v0 v1 v2 v3 v4 : Value)
    (hQ : ∀ w', Keeps (· = g) w1 w' → Q (.returned (.agg #[v0, v1, v2, v3, v4])) w') :
    bodyPost Try.prog fn Q .ret a (((((w1.setCell ⟨g, 0, none⟩ v0).setCell ⟨g, 1, none⟩ v1).setCell ⟨g, 2, none⟩ v2).setCell ⟨g, 3, none⟩ v3).setCell ⟨g, 4, none⟩ v4) := by
  obtain ⟨c', h1, h2⟩ := setsFrom_block g t [v0, v1, v2, v3, v4] 0 w1 c hb (by simp [hc])
  have h3 : c' = #[v0, v1, v2, v3, v4] := by
    apply Array.toList_inj.1
    rw [h2, List.drop_of_length_le (by simp [hc])]
    rfl
  rw [h3] at h1
  have hk := setsFrom_keeps g [v0, v1, v2, v3, v4] 0 w1
  have hl := run_loadVar_row (P := Try.prog) _ g t 25 _ _ _ h1 Try.underlying25 rfl (by kernel_rfl)
  simp only [setsFrom] at hl
  exact bodyPost_ret (results_row (q := q) (ty := 25) hfn ha hl) hd (hQ _ hk)
set_option maxHeartbeats 8000000 in
set_option maxRecDepth 100000 in
theorem fit_ok (f m t : Int) (ao bo : Option Addr) (n c k e K1 K2 : Nat) (l : List Tod) (z : List Int) (w : World) (hn : n = l.length) (hk : k = z.length) (hT : TodoAt w ao l) (hZ : Ints w bo z) (h1 : K1 ≤ 10000) (h2 : K2 ≤ 10000) :
    Calls Try.prog 8 #[.agg #[.int .i64 f, .int .i64 m, .slice ao n c, .int .i64 t, .slice bo k e], .int .i64 K1, .int .i64 K2] w fun e w' => ∃ vT vP,
      e = .returned (.agg #[.int .i64 (fitF f : Nat), .int .i64 (fitM f m : Nat), vT, .int .i64 (mdN t 4 : Nat), vP]) ∧ FitQ w w' vT vP (fitT (l.take K1)) ((fitP t (z.take K2)).map (fun x : Nat => (x : Int))) := by
  have hf8 := mod4_any f 8 (by omega) (by omega)
  have hm8 := mod4_any m 8 (by omega) (by omega)
  have ht4 := mod4_any t 4 (by omega) (by omega)
  have lf := mdN_lt f (n := 8) (by omega)
  have lm := mdN_lt m (n := 8) (by omega)
  have lt := mdN_lt t (n := 4) (by omega)
  have HFV : Hid (fitF f = 1 + mdN f 8 ∧ fitM f m = 1 + mdN f 8 + mdN m 8) := ⟨rfl, rfl⟩
  generalize hu : mdN f 8 = u at hf8 lf HFV
  generalize hv : mdN m 8 = v at hm8 lm HFV
  generalize hy : mdN t 4 = y at ht4 lt
  have HU : Hid _ := And.intro hu (And.intro hv hy)
  have hw1 : IntKind.i64.wrap (1 + (u : Int)) = 1 + (u : Int) := (i64_left _).trans (wrap64_in _ (by omega))
  have hw2 : IntKind.i64.wrap (1 + (u : Int) + (v : Int)) = 1 + (u : Int) + (v : Int) := (i64_left _).trans (wrap64_in _ (by omega))
  have hkX := Keeps.alloc None w (.cells #[.int .i64 f, .int .i64 m, .slice ao n c, .int .i64 t, .slice bo k e] 25)
  have hbX := new_at w (.cells #[.int .i64 f, .int .i64 m, .slice ao n c, .int .i64 t, .slice bo k e] 25) _ rfl
  have hkR := Keeps.alloc None (w.alloc (.cells #[.int .i64 f, .int .i64 m, .slice ao n c, .int .i64 t, .slice bo k e] 25)) (.cells #[.int .i64 0, .int .i64 0, .slice none 0 0, .int .i64 0, .slice none 0 0] 25)
  have hbR := new_at (w.alloc (.cells #[.int .i64 f, .int .i64 m, .slice ao n c, .int .i64 t, .slice bo k e] 25)) (.cells #[.int .i64 0, .int .i64 0, .slice none 0 0, .int .i64 0, .slice none 0 0] 25) (w.heap.size + 1) (by simp)
  have hbX2 := blkD hbX hkR (fun f => f)
  have hs2 : ((w.alloc (.cells #[.int .i64 f, .int .i64 m, .slice ao n c, .int .i64 t, .slice bo k e] 25)).alloc (.cells #[.int .i64 0, .int .i64 0, .slice none 0 0, .int .i64 0, .slice none 0 0] 25)).heap.size = w.heap.size + 2 := by simp
  have x0 := (cell_of_block hbX2 0).trans rfl
  have x1 := (cell_of_block hbX2 1).trans rfl
  have x3 := (cell_of_block hbX2 3).trans rfl
  have HX : Hid _ := And.intro (hkX.trans hkR (fun _ f _ => f)) (And.intro hbX2 (And.intro hbR hs2))
  have HT : Hid _ := And.intro hT (And.intro hZ (And.intro hn hk))
  clear hkX hbX hkR hbR hbX2 hs2 hT hZ hn hk hu hv hy
  go_enter Try.func8, Try.ntmps8
  go_upto_region 1 with fail
  generalize ((w.alloc (.cells #[.int .i64 f, .int .i64 m, .slice ao n c, .int .i64 t, .slice bo k e] 25)).alloc (.cells #[.int .i64 0, .int .i64 0, .slice none 0 0, .int .i64 0, .slice none 0 0] 25)) = wA at HX x0 x1 x3 ⊢
  go_cut [7] (fun s7 wx => ∃ Hb, s7 = .pointer (some ⟨Hb, 0, none⟩) ∧ FitS w wx w.heap.size Hb (w.heap.size + 1) #[.int .i64 f, .int .i64 m, .slice ao n c, .int .i64 t, .slice bo k e] (1 + (u : Int)) 0 y (.slice none 0 0) (.slice none 0 0) [] [])
  case first =>
    go_region_held3 (fun w' => w'.cell? ⟨w.heap.size, 0, none⟩ = some (.int .i64 f) ∧ w'.cell? ⟨w.heap.size, 3, none⟩ = some (.int .i64 t)) (go_keep) (first
      | (go_at_call_of 9 (Value.int .i64 f); refine (hf8 _).mono ?_; rintro e8 w8 ⟨rfl, hw8⟩; have hv8 := hw8.symm; subst hv8; clear hw8)
      | (go_at_call_of 9 (Value.int .i64 t); refine (ht4 _).mono ?_; rintro e9 w9 ⟨rfl, hw9⟩; have hv9 := hw9.symm; subst hv9; clear hw9))
    all_goals (go_wp2_with fail; go_meet)
    all_goals exact ⟨wA.heap.size, rfl, fits_start HX.out.1 HX.out.2.1 HX.out.2.2.1 HX.out.2.2.2⟩
  case rest =>
    obtain ⟨Hb, rfl, hF⟩ := hcut
    obtain ⟨wb, hwb⟩ : ∃ wb, wb = wc := ⟨_, rfl⟩
    subst hwb
    clear x0 x1 x3
    have h0 := hF.cs.1.1
    have h1c := hF.cs.1.2.1
    have f1 := hF.cs.2 1
    have x1 := (cell_of_block hF.hX 1).trans rfl
    have HF : Hid _ := hF
    have nXH := hF.nXH
    clear hF
    generalize hXg : w.heap.size = X at HF x1 nXH ⊢
    have HXg : Hid _ := hXg
    clear hXg hf8 ht4 HX
    go_upto_region 2 with fail
    go_cut [24] (fun s24 wx => FitS w wx X Hb (X + 1) #[.int .i64 f, .int .i64 m, .slice ao n c, .int .i64 t, .slice bo k e] (1 + (u : Int)) (1 + (u : Int) + (v : Int)) y (.slice none 0 0) (.slice none 0 0) [] [])
    case first =>
      have hFm := (HF.out.setM (1 + (u : Int) + (v : Int))).kept (Keeps.drew None _)
      have hs3 := And.intro ((cell_of_block hFm.hX 1).trans rfl : _ = some (.int .i64 m)) hFm.cs.1.1
      have HFm : Hid _ := hFm
      clear hFm
      go_region_held3 (fun w' => w'.cell? ⟨X, 1, none⟩ = some (.int .i64 m) ∧ w'.cell? ⟨Hb, 0, none⟩ = some (.int .i64 (1 + (u : Int)))) (first | with_reducible exact hs3 | go_keep) (first
        | (go_at_call 9; refine (hm8 _).mono ?_; rintro e8 w8 ⟨rfl, hw8⟩; have hv8 := hw8.symm; subst hv8; clear hw8))
      all_goals (go_wp2_with fail; go_meet)
      all_goals exact HFm.out
    case rest =>
      have hF2 := hcut
      obtain ⟨wd, hwd⟩ : ∃ wd, wd = wc := ⟨_, rfl⟩
      subst hwd
      have HF2 : Hid _ := hF2
      clear hcut hF2 h0 h1c f1 x1 HF hm8 hw2
      go_upto_block 0 with fail
      go_cut [8] (fun s8 wx => ∃ vT, FitS w wx X Hb (X + 1) #[.int .i64 f, .int .i64 m, .slice ao n c, .int .i64 t, .slice bo k e] (1 + (u : Int)) (1 + (u : Int) + (v : Int)) y vT (.slice none 0 0) (fitT (l.take K1)) [])
      case first =>
        go_wp2_with fail
        go_loopw [8] (fun s8 wr => ∃ i : Nat, i ≤ l.length ∧ i ≤ K1 ∧ s8 = .int .i64 i ∧ ∃ vT, FitS w wr X Hb (X + 1) #[.int .i64 f, .int .i64 m, .slice ao n c, .int .i64 t, .slice bo k e] (1 + (u : Int)) (1 + (u : Int) + (v : Int)) y vT (.slice none 0 0) (fitT (l.take i)) []) (fun s8 _ => l.length - (intOf s8).toNat)
        case atStart => exact ⟨0, Nat.zero_le _, Nat.zero_le _, rfl, _, HF2.out⟩
        case round =>
          obtain ⟨i, hi1, hi2, rfl, vT, hF⟩ := hrel
          have hnl := HT.out.2.2.1
          have x2 := (cell_of_block hF.hX 2).trans rfl
          by_cases hgo : i < l.length ∧ i < K1
          · have j1 : (i : Int) < (n : Int) := by omega
            have j2 : (i : Int) < (K1 : Int) := by omega
            have j3 : (i : Int) ≤ 10000 := by omega
            obtain ⟨b, off, rfl, hb, hcs⟩ := HT.out.1 (by omega)
            obtain ⟨x, hx⟩ : ∃ x, l[i]? = some x := ⟨_, List.getElem?_eq_getElem hgo.1⟩
            obtain ⟨c0, c1⟩ := hcs i x hx
            have d0 := hF.kp.cell c0 (fun f => f)
            have d1 := hF.kp.cell c1 (fun f => f)
            have hmore := fitT_more hx
            have hmod := mod4_any x.kind 2 (by omega) (by omega)
            obtain ⟨xk, xv⟩ := x
            dsimp only at d0 d1 hmore hmod
            obtain ⟨xT, cT, hvT⟩ := own_shape hF.oT
            subst hvT
            generalize mdN xk 2 = r at hmore hmod
            have hF1 := (hF.kept (Keeps.drew None wr)).kept (Keeps.alloc None wr.drew (.cells #[.int .i64 r, .int .i64 xv] 55))
            obtain ⟨gn, cn, w1, hr, ho, hgr, hmv⟩ := tod_append _ (fitT (l.take i)) ⟨(r : Int), xv⟩ wr.heap.size 22 _ hF1.oT (by simp [fitT]; omega) (new_at wr.drew _ _ rfl)
            have hkg := Keeps.grown (S := fun k => (Value.slice xT (fitT (l.take i)).length cT).ownBlock = some k) hgr (fun _ e => e)
            have hF2 := hF1.addT hkg hmv ho
            rw [← hmore] at hF2
            have hH1 := blkD hF1.hH hkg (fun e => absurd (own_type hF1.oT e hF1.hH) (by decide))
            have u2 := (cell_of_block hH1 2).trans rfl
            have v2 := free_of_block hH1 2
            have HF2 : Hid _ := And.intro hF2 (And.intro hgo hmore)
            have h2c := hF.cs.1.2.2.1
            have h2d := (cell_of_block (blkD hF.hH (Keeps.alloc None wr (.cells #[.int .i64 r, .int .i64 xv] 55)) (fun f => f)) 2).trans rfl
            have hs0 := And.intro x2 (And.intro d0 d1)
            have hs3 := And.intro ((cell_of_block (blkD hF.hX (Keeps.alloc None wr (.cells #[.int .i64 r, .int .i64 xv] 55)) (fun f => f)) 2).trans rfl : _ = some (.slice (some ⟨b, off, none⟩) n c)) (And.intro ((hF.kp.andAlloc (.cells #[.int .i64 r, .int .i64 xv] 55)).cell c0 (fun f => f)) ((hF.kp.andAlloc (.cells #[.int .i64 r, .int .i64 xv] 55)).cell c1 (fun f => f)))
            have hs4 := And.intro ((cell_of_block hF1.hX 2).trans rfl : _ = some (.slice (some ⟨b, off, none⟩) n c)) (And.intro (hF1.kp.cell c0 (fun f => f)) (hF1.kp.cell c1 (fun f => f)))
            have hkw1 : Keeps None w w1 := hF1.kp.trans hkg (fun q e hq => by have := hF1.lT q e; omega)
            have hs1 := And.intro ((cell_of_block (blkD hF1.hX hkg (fun e => absurd (own_type hF1.oT e hF1.hX) (by decide))) 2).trans rfl : _ = some (.slice (some ⟨b, off, none⟩) n c)) (And.intro (hkw1.cell c0 (fun f => f)) (hkw1.cell c1 (fun f => f)))
            have hs2 := And.intro ((cell_of_block hF2.hX 2).trans rfl : _ = some (.slice (some ⟨b, off, none⟩) n c)) (And.intro (hF2.kp.cell c0 (fun f => f)) (hF2.kp.cell c1 (fun f => f)))
            clear hF hF1 hF2 hmv ho hgr hkg hH1 hkw1 hcs c0 c1 hx hmore hi1 hi2 hb hnl
            go_upto_block 1 with fail
            go_cut [55] (fun s55 wx => ∃ vT, FitS w wx X Hb (X + 1) #[.int .i64 f, .int .i64 m, .slice (some ⟨b, off, none⟩) n c, .int .i64 t, .slice bo k e] (1 + (u : Int)) (1 + (u : Int) + (v : Int)) y vT (.slice none 0 0) (fitT (l.take (i + 1))) [])
            case first =>
              go_upto_region 6 with fail
              refine wp_region_held_drew (S := (fun w' => w'.cell? ⟨X, 2, none⟩ = some (.slice (some ⟨b, off, none⟩) n c) ∧ w'.cell? ⟨b, off + i * 2, none⟩ = some (.int .i64 xk) ∧ w'.cell? ⟨b, off + i * 2 + 1, none⟩ = some (.int .i64 xv))) (by kernel_rfl) ?_ (fun hHeld => ?_)
              · (try dsimp only); (first | with_reducible exact hs0 | with_reducible exact hs3 | with_reducible exact hs4 | with_reducible exact hs1 | with_reducible exact hs2 | go_keep)
              refine wpAnyH_take (i := 0) (oi := { dst := some 37, op := Op.fieldAddr 25 (Operand.tmp 7) 2, type := 0, pos := "outright.go:34", after := #[], guard := none }) (v := ?_) rfl (by kernel_rfl) (by kernel_rfl) (by kernel_rfl) (fun _ _ _ h => h) (Or.inl ⟨by rfl, ?_⟩) (by assumption) ?_
              rotate_left
              · (intro wz hSw; (try dsimp only at hSw); go_simp; try with_reducible rfl)
              simp only [Act.put, List.setIfInBounds_toArray, List.set_cons_zero, List.set_cons_succ]
              refine wpAnyH_take (i := 2) (oi := { dst := some 39, op := Op.fieldAddr 25 (Operand.tmp 3) 2, type := 0, pos := "outright.go:34", after := #[], guard := none }) (v := ?_) rfl (by kernel_rfl) (by kernel_rfl) (by kernel_rfl) (fun _ _ _ h => h) (Or.inl ⟨by rfl, ?_⟩) (by assumption) ?_
              rotate_left
              · (intro wz hSw; (try dsimp only at hSw); go_simp; try with_reducible rfl)
              simp only [Act.put, List.setIfInBounds_toArray, List.set_cons_zero, List.set_cons_succ]
              refine wpAnyH_take (i := 3) (oi := { dst := some 40, op := Op.load 22 (Operand.tmp 39), type := 22, pos := "outright.go:34", after := #[{ on := 2, ground := Ground.data }], guard := none }) (v := ?_) rfl (by kernel_rfl) (by kernel_rfl) (by kernel_rfl) (fun _ _ _ h => h) (Or.inl ⟨by rfl, ?_⟩) (by assumption) ?_
              rotate_left
              · (intro wz hSw; (try dsimp only at hSw); go_simp; try with_reducible rfl)
              simp only [Act.put, List.setIfInBounds_toArray, List.set_cons_zero, List.set_cons_succ]
              refine wpAnyH_take (i := 4) (oi := { dst := some 41, op := Op.move (Operand.tmp 8), type := 3, pos := "outright.go:34", after := #[], guard := none }) (v := ?_) rfl (by kernel_rfl) (by kernel_rfl) (by kernel_rfl) (fun _ _ _ h => h) (Or.inl ⟨by rfl, ?_⟩) (by assumption) ?_
              rotate_left
              · (intro wz hSw; (try dsimp only at hSw); go_simp; try with_reducible rfl)
              simp only [Act.put, List.setIfInBounds_toArray, List.set_cons_zero, List.set_cons_succ]
              refine wpAnyH_take (i := 5) (oi := { dst := some 42, op := Op.indexAddr 22 (Operand.tmp 40) (Operand.tmp 41), type := 0, pos := "outright.go:34", after := #[{ on := 3, ground := Ground.data }, { on := 4, ground := Ground.data }], guard := none }) (v := ?_) rfl (by kernel_rfl) (by kernel_rfl) (by kernel_rfl) (fun _ _ _ h => h) (Or.inl ⟨by rfl, ?_⟩) (by assumption) ?_
              rotate_left
              · (intro wz hSw; (try dsimp only at hSw); go_simp; try with_reducible rfl)
              simp only [Act.put, List.setIfInBounds_toArray, List.set_cons_zero, List.set_cons_succ]
              refine wpAnyH_take (i := 6) (oi := { dst := some 43, op := Op.fieldAddr 55 (Operand.tmp 42) 0, type := 0, pos := "outright.go:34", after := #[{ on := 5, ground := Ground.data }], guard := none }) (v := ?_) rfl (by kernel_rfl) (by kernel_rfl) (by kernel_rfl) (fun _ _ _ h => h) (Or.inl ⟨by rfl, ?_⟩) (by assumption) ?_
              rotate_left
              · (intro wz hSw; (try dsimp only at hSw); go_simp; try with_reducible rfl)
              simp only [Act.put, List.setIfInBounds_toArray, List.set_cons_zero, List.set_cons_succ]
              refine wpAnyH_take (i := 7) (oi := { dst := some 44, op := Op.load 3 (Operand.tmp 43), type := 3, pos := "outright.go:34", after := #[{ on := 6, ground := Ground.data }], guard := none }) (v := ?_) rfl (by kernel_rfl) (by kernel_rfl) (by kernel_rfl) (fun _ _ _ h => h) (Or.inl ⟨by rfl, ?_⟩) (by assumption) ?_
              rotate_left
              · (intro wz hSw; (try dsimp only at hSw); go_simp; try with_reducible rfl)
              simp only [Act.put, List.setIfInBounds_toArray, List.set_cons_zero, List.set_cons_succ]
              refine wpAnyH_take (i := 9) (oi := { dst := some 46, op := Op.fieldAddr 25 (Operand.tmp 3) 2, type := 0, pos := "outright.go:34", after := #[], guard := none }) (v := ?_) rfl (by kernel_rfl) (by kernel_rfl) (by kernel_rfl) (fun _ _ _ h => h) (Or.inl ⟨by rfl, ?_⟩) (by assumption) ?_
              rotate_left
              · (intro wz hSw; (try dsimp only at hSw); go_simp; try with_reducible rfl)
              simp only [Act.put, List.setIfInBounds_toArray, List.set_cons_zero, List.set_cons_succ]
              refine wpAnyH_take (i := 10) (oi := { dst := some 47, op := Op.load 22 (Operand.tmp 46), type := 22, pos := "outright.go:34", after := #[{ on := 9, ground := Ground.data }], guard := none }) (v := ?_) rfl (by kernel_rfl) (by kernel_rfl) (by kernel_rfl) (fun _ _ _ h => h) (Or.inl ⟨by rfl, ?_⟩) (by assumption) ?_
              rotate_left
              · (intro wz hSw; (try dsimp only at hSw); go_simp; try with_reducible rfl)
              simp only [Act.put, List.setIfInBounds_toArray, List.set_cons_zero, List.set_cons_succ]
              refine wpAnyH_take (i := 11) (oi := { dst := some 48, op := Op.move (Operand.tmp 8), type := 3, pos := "outright.go:34", after := #[], guard := none }) (v := ?_) rfl (by kernel_rfl) (by kernel_rfl) (by kernel_rfl) (fun _ _ _ h => h) (Or.inl ⟨by rfl, ?_⟩) (by assumption) ?_
              rotate_left
              · (intro wz hSw; (try dsimp only at hSw); go_simp; try with_reducible rfl)
              simp only [Act.put, List.setIfInBounds_toArray, List.set_cons_zero, List.set_cons_succ]
              refine wpAnyH_take (i := 12) (oi := { dst := some 49, op := Op.indexAddr 22 (Operand.tmp 47) (Operand.tmp 48), type := 0, pos := "outright.go:34", after := #[{ on := 10, ground := Ground.data }, { on := 11, ground := Ground.data }], guard := none }) (v := ?_) rfl (by kernel_rfl) (by kernel_rfl) (by kernel_rfl) (fun _ _ _ h => h) (Or.inl ⟨by rfl, ?_⟩) (by assumption) ?_
              rotate_left
              · (intro wz hSw; (try dsimp only at hSw); go_simp; try with_reducible rfl)
              simp only [Act.put, List.setIfInBounds_toArray, List.set_cons_zero, List.set_cons_succ]
              refine wpAnyH_take (i := 13) (oi := { dst := some 50, op := Op.fieldAddr 55 (Operand.tmp 49) 1, type := 0, pos := "outright.go:34", after := #[{ on := 12, ground := Ground.data }], guard := none }) (v := ?_) rfl (by kernel_rfl) (by kernel_rfl) (by kernel_rfl) (fun _ _ _ h => h) (Or.inl ⟨by rfl, ?_⟩) (by assumption) ?_
              rotate_left
              · (intro wz hSw; (try dsimp only at hSw); go_simp; try with_reducible rfl)
              simp only [Act.put, List.setIfInBounds_toArray, List.set_cons_zero, List.set_cons_succ]
              refine wpAnyH_take (i := 14) (oi := { dst := some 51, op := Op.load 2 (Operand.tmp 50), type := 2, pos := "outright.go:34", after := #[{ on := 13, ground := Ground.data }], guard := none }) (v := ?_) rfl (by kernel_rfl) (by kernel_rfl) (by kernel_rfl) (fun _ _ _ h => h) (Or.inl ⟨by rfl, ?_⟩) (by assumption) ?_
              rotate_left
              · (intro wz hSw; (try dsimp only at hSw); go_simp; try with_reducible rfl)
              simp only [Act.put, List.setIfInBounds_toArray, List.set_cons_zero, List.set_cons_succ]
              refine wpAnyH_ready (rs := [1, 8]) (by kernel_rfl) (by simp) ?_
              refine AllReadyH.cons (o := { dst := some 38, op := Op.load 22 (Operand.tmp 37), type := 22, pos := "outright.go:34", after := #[{ on := 0, ground := Ground.data }], guard := none }) rfl (fun K hK => ?_) ?_
              · go_simp
                refine hK.out _ _ ?_ (fun hHeld2 => ?_)
                · (try dsimp only); (first | with_reducible exact hs0 | with_reducible exact hs3 | with_reducible exact hs4 | with_reducible exact hs1 | with_reducible exact hs2 | go_keep)
                clear hK K
                try simp only [Act.put, List.setIfInBounds_toArray, List.set_cons_zero, List.set_cons_succ]
                refine wpAnyH_ready (rs := [8]) (by kernel_rfl) (by simp) ?_
                refine AllReadyH.cons (o := { dst := some 45, op := Op.call { callee := Callee.value (Operand.func 9), args := #[Operand.tmp 44, Operand.const (Value.int IntKind.i64 2)], argTypes := #[3, 3] }, type := 3, pos := "outright.go:34", after := #[{ on := 7, ground := Ground.data }], guard := none }) rfl (fun K hK => ?_) ?_
                · go_simp
                  refine (hmod _).mono ?_
                  rintro _ w8 ⟨rfl, hw8⟩
                  have hv8 := hw8.symm
                  subst hv8
                  clear hw8
                  refine hK.out _ _ ?_ (fun hHeld2 => ?_)
                  · (try dsimp only); (first | with_reducible exact hs0 | with_reducible exact hs3 | with_reducible exact hs4 | with_reducible exact hs1 | with_reducible exact hs2 | go_keep)
                  clear hK K
                  try simp only [Act.put, List.setIfInBounds_toArray, List.set_cons_zero, List.set_cons_succ]
                  refine wpAnyH_take (i := 15) (oi := { dst := some 52, op := Op.build 55 #[(0, Operand.tmp 45), (1, Operand.tmp 51)], type := 55, pos := "outright.go:34", after := #[{ on := 8, ground := Ground.data }, { on := 14, ground := Ground.data }], guard := none }) (v := ?_) rfl (by kernel_rfl) (by kernel_rfl) (by kernel_rfl) (fun _ _ _ h => h) (Or.inl ⟨by rfl, ?_⟩) (by assumption) ?_
                  rotate_left
                  · (intro wz hSw; (try dsimp only at hSw); go_simp; try with_reducible rfl)
                  simp only [Act.put, List.setIfInBounds_toArray, List.set_cons_zero, List.set_cons_succ]
                  refine wpAnyH_ready (rs := [16]) (by kernel_rfl) (by simp) ?_
                  refine AllReadyH.cons (o := { dst := some 53, op := Op.buildSlice 22 1 #[(0, Operand.tmp 52)], type := 22, pos := "outright.go:34", after := #[{ on := 15, ground := Ground.data }], guard := none }) rfl (fun K hK => ?_) ?_
                  · go_simp
                    refine hK.out _ _ ?_ (fun hHeld2 => ?_)
                    · (try dsimp only); (first | with_reducible exact hs0 | with_reducible exact hs3 | with_reducible exact hs4 | with_reducible exact hs1 | with_reducible exact hs2 | go_keep)
                    clear hK K
                    try simp only [Act.put, List.setIfInBounds_toArray, List.set_cons_zero, List.set_cons_succ]
                    refine wpAnyH_ready (rs := [17]) (by kernel_rfl) (by simp) ?_
                    refine AllReadyH.cons (o := { dst := some 54, op := Op.call { callee := Callee.builtin Builtin.append, args := #[Operand.tmp 38, Operand.tmp 53], argTypes := #[22, 22] }, type := 22, pos := "outright.go:34", after := #[{ on := 1, ground := Ground.data }, { on := 16, ground := Ground.data }, { on := 8, ground := Ground.chain }], guard := none }) rfl (fun K hK => ?_) ?_
                    · refine step_append_run rfl (.tmp 38) (.tmp 53) 22 22 rfl (by simp [Act.eval]) (by simp [Act.eval]) hr ?_
                      refine hK.out _ _ ?_ (fun hHeld2 => ?_)
                      · (try dsimp only); (first | with_reducible exact hs0 | with_reducible exact hs3 | with_reducible exact hs4 | with_reducible exact hs1 | with_reducible exact hs2 | go_keep)
                      clear hK K
                      try simp only [Act.put, List.setIfInBounds_toArray, List.set_cons_zero, List.set_cons_succ]
                      refine wpAnyH_take (i := 18) (oi := { dst := some 55, op := Op.fieldAddr 25 (Operand.tmp 7) 2, type := 0, pos := "outright.go:34", after := #[{ on := 0, ground := Ground.phase }, { on := 1, ground := Ground.phase }, { on := 2, ground := Ground.phase }, { on := 3, ground := Ground.phase }, { on := 4, ground := Ground.phase }, { on := 5, ground := Ground.phase }, { on := 6, ground := Ground.phase }, { on := 7, ground := Ground.phase }, { on := 8, ground := Ground.phase }, { on := 9, ground := Ground.phase }, { on := 10, ground := Ground.phase }, { on := 11, ground := Ground.phase }, { on := 12, ground := Ground.phase }, { on := 13, ground := Ground.phase }, { on := 14, ground := Ground.phase }, { on := 15, ground := Ground.phase }, { on := 16, ground := Ground.phase }, { on := 17, ground := Ground.phase }], guard := none }) (v := ?_) rfl (by kernel_rfl) (by kernel_rfl) (by kernel_rfl) (fun _ _ _ h => h) (Or.inl ⟨by rfl, ?_⟩) (by assumption) ?_
                      rotate_left
                      · (intro wz hSw; (try dsimp only at hSw); go_simp; try with_reducible rfl)
                      simp only [Act.put, List.setIfInBounds_toArray, List.set_cons_zero, List.set_cons_succ]
                      refine wpAnyH_ready (rs := [19]) (by kernel_rfl) (by simp) ?_
                      refine AllReadyH.cons (o := { dst := none, op := Op.store 22 (Operand.tmp 55) (Operand.tmp 54), type := 0, pos := "outright.go:34", after := #[{ on := 18, ground := Ground.data }, { on := 17, ground := Ground.data }, { on := 17, ground := Ground.chain }, { on := 0, ground := Ground.phase }, { on := 1, ground := Ground.phase }, { on := 2, ground := Ground.phase }, { on := 3, ground := Ground.phase }, { on := 4, ground := Ground.phase }, { on := 5, ground := Ground.phase }, { on := 6, ground := Ground.phase }, { on := 7, ground := Ground.phase }, { on := 8, ground := Ground.phase }, { on := 9, ground := Ground.phase }, { on := 10, ground := Ground.phase }, { on := 11, ground := Ground.phase }, { on := 12, ground := Ground.phase }, { on := 13, ground := Ground.phase }, { on := 14, ground := Ground.phase }, { on := 15, ground := Ground.phase }, { on := 16, ground := Ground.phase }, { on := 17, ground := Ground.phase }], guard := none }) rfl (fun K hK => ?_) ?_
                      · go_simp
                        refine hK.out _ _ ?_ (fun hHeld2 => ?_)
                        · (try dsimp only); (first | with_reducible exact hs0 | with_reducible exact hs3 | with_reducible exact hs4 | with_reducible exact hs1 | with_reducible exact hs2 | go_keep)
                        clear hK K
                        try simp only [Act.put, List.setIfInBounds_toArray, List.set_cons_zero, List.set_cons_succ]
                        refine wpAnyH_done (by kernel_rfl) ?_ _
                        go_wp2_with fail
                        go_meet
                        exact ⟨_, HF2.out.1⟩
                      exact AllReadyH.nil
                    exact AllReadyH.nil
                  exact AllReadyH.nil
                exact AllReadyH.nil
              refine AllReadyH.cons (o := { dst := some 45, op := Op.call { callee := Callee.value (Operand.func 9), args := #[Operand.tmp 44, Operand.const (Value.int IntKind.i64 2)], argTypes := #[3, 3] }, type := 3, pos := "outright.go:34", after := #[{ on := 7, ground := Ground.data }], guard := none }) rfl (fun K hK => ?_) ?_
              · go_simp
                refine (hmod _).mono ?_
                rintro _ w8 ⟨rfl, hw8⟩
                have hv8 := hw8.symm
                subst hv8
                clear hw8
                refine hK.out _ _ ?_ (fun hHeld2 => ?_)
                · (try dsimp only); (first | with_reducible exact hs0 | with_reducible exact hs3 | with_reducible exact hs4 | with_reducible exact hs1 | with_reducible exact hs2 | go_keep)
                clear hK K
                try simp only [Act.put, List.setIfInBounds_toArray, List.set_cons_zero, List.set_cons_succ]
                refine wpAnyH_take (i := 15) (oi := { dst := some 52, op := Op.build 55 #[(0, Operand.tmp 45), (1, Operand.tmp 51)], type := 55, pos := "outright.go:34", after := #[{ on := 8, ground := Ground.data }, { on := 14, ground := Ground.data }], guard := none }) (v := ?_) rfl (by kernel_rfl) (by kernel_rfl) (by kernel_rfl) (fun _ _ _ h => h) (Or.inl ⟨by rfl, ?_⟩) (by assumption) ?_
                rotate_left
                · (intro wz hSw; (try dsimp only at hSw); go_simp; try with_reducible rfl)
                simp only [Act.put, List.setIfInBounds_toArray, List.set_cons_zero, List.set_cons_succ]
                refine wpAnyH_ready (rs := [1, 16]) (by kernel_rfl) (by simp) ?_
                refine AllReadyH.cons (o := { dst := some 38, op := Op.load 22 (Operand.tmp 37), type := 22, pos := "outright.go:34", after := #[{ on := 0, ground := Ground.data }], guard := none }) rfl (fun K hK => ?_) ?_
                · go_simp
                  refine hK.out _ _ ?_ (fun hHeld2 => ?_)
                  · (try dsimp only); (first | with_reducible exact hs0 | with_reducible exact hs3 | with_reducible exact hs4 | with_reducible exact hs1 | with_reducible exact hs2 | go_keep)
                  clear hK K
                  try simp only [Act.put, List.setIfInBounds_toArray, List.set_cons_zero, List.set_cons_succ]
                  refine wpAnyH_ready (rs := [16]) (by kernel_rfl) (by simp) ?_
                  refine AllReadyH.cons (o := { dst := some 53, op := Op.buildSlice 22 1 #[(0, Operand.tmp 52)], type := 22, pos := "outright.go:34", after := #[{ on := 15, ground := Ground.data }], guard := none }) rfl (fun K hK => ?_) ?_
                  · go_simp
                    refine hK.out _ _ ?_ (fun hHeld2 => ?_)
                    · (try dsimp only); (first | with_reducible exact hs0 | with_reducible exact hs3 | with_reducible exact hs4 | with_reducible exact hs1 | with_reducible exact hs2 | go_keep)
                    clear hK K
                    try simp only [Act.put, List.setIfInBounds_toArray, List.set_cons_zero, List.set_cons_succ]
                    refine wpAnyH_ready (rs := [17]) (by kernel_rfl) (by simp) ?_
                    refine AllReadyH.cons (o := { dst := some 54, op := Op.call { callee := Callee.builtin Builtin.append, args := #[Operand.tmp 38, Operand.tmp 53], argTypes := #[22, 22] }, type := 22, pos := "outright.go:34", after := #[{ on := 1, ground := Ground.data }, { on := 16, ground := Ground.data }, { on := 8, ground := Ground.chain }], guard := none }) rfl (fun K hK => ?_) ?_
                    · refine step_append_run rfl (.tmp 38) (.tmp 53) 22 22 rfl (by simp [Act.eval]) (by simp [Act.eval]) hr ?_
                      refine hK.out _ _ ?_ (fun hHeld2 => ?_)
                      · (try dsimp only); (first | with_reducible exact hs0 | with_reducible exact hs3 | with_reducible exact hs4 | with_reducible exact hs1 | with_reducible exact hs2 | go_keep)
                      clear hK K
                      try simp only [Act.put, List.setIfInBounds_toArray, List.set_cons_zero, List.set_cons_succ]
                      refine wpAnyH_take (i := 18) (oi := { dst := some 55, op := Op.fieldAddr 25 (Operand.tmp 7) 2, type := 0, pos := "outright.go:34", after := #[{ on := 0, ground := Ground.phase }, { on := 1, ground := Ground.phase }, { on := 2, ground := Ground.phase }, { on := 3, ground := Ground.phase }, { on := 4, ground := Ground.phase }, { on := 5, ground := Ground.phase }, { on := 6, ground := Ground.phase }, { on := 7, ground := Ground.phase }, { on := 8, ground := Ground.phase }, { on := 9, ground := Ground.phase }, { on := 10, ground := Ground.phase }, { on := 11, ground := Ground.phase }, { on := 12, ground := Ground.phase }, { on := 13, ground := Ground.phase }, { on := 14, ground := Ground.phase }, { on := 15, ground := Ground.phase }, { on := 16, ground := Ground.phase }, { on := 17, ground := Ground.phase }], guard := none }) (v := ?_) rfl (by kernel_rfl) (by kernel_rfl) (by kernel_rfl) (fun _ _ _ h => h) (Or.inl ⟨by rfl, ?_⟩) (by assumption) ?_
                      rotate_left
                      · (intro wz hSw; (try dsimp only at hSw); go_simp; try with_reducible rfl)
                      simp only [Act.put, List.setIfInBounds_toArray, List.set_cons_zero, List.set_cons_succ]
                      refine wpAnyH_ready (rs := [19]) (by kernel_rfl) (by simp) ?_
                      refine AllReadyH.cons (o := { dst := none, op := Op.store 22 (Operand.tmp 55) (Operand.tmp 54), type := 0, pos := "outright.go:34", after := #[{ on := 18, ground := Ground.data }, { on := 17, ground := Ground.data }, { on := 17, ground := Ground.chain }, { on := 0, ground := Ground.phase }, { on := 1, ground := Ground.phase }, { on := 2, ground := Ground.phase }, { on := 3, ground := Ground.phase }, { on := 4, ground := Ground.phase }, { on := 5, ground := Ground.phase }, { on := 6, ground := Ground.phase }, { on := 7, ground := Ground.phase }, { on := 8, ground := Ground.phase }, { on := 9, ground := Ground.phase }, { on := 10, ground := Ground.phase }, { on := 11, ground := Ground.phase }, { on := 12, ground := Ground.phase }, { on := 13, ground := Ground.phase }, { on := 14, ground := Ground.phase }, { on := 15, ground := Ground.phase }, { on := 16, ground := Ground.phase }, { on := 17, ground := Ground.phase }], guard := none }) rfl (fun K hK => ?_) ?_
                      · go_simp
                        refine hK.out _ _ ?_ (fun hHeld2 => ?_)
                        · (try dsimp only); (first | with_reducible exact hs0 | with_reducible exact hs3 | with_reducible exact hs4 | with_reducible exact hs1 | with_reducible exact hs2 | go_keep)
                        clear hK K
                        try simp only [Act.put, List.setIfInBounds_toArray, List.set_cons_zero, List.set_cons_succ]
                        refine wpAnyH_done (by kernel_rfl) ?_ _
                        go_wp2_with fail
                        go_meet
                        exact ⟨_, HF2.out.1⟩
                      exact AllReadyH.nil
                    exact AllReadyH.nil
                  exact AllReadyH.nil
                refine AllReadyH.cons (o := { dst := some 53, op := Op.buildSlice 22 1 #[(0, Operand.tmp 52)], type := 22, pos := "outright.go:34", after := #[{ on := 15, ground := Ground.data }], guard := none }) rfl (fun K hK => ?_) ?_
                · go_simp
                  refine hK.out _ _ ?_ (fun hHeld2 => ?_)
                  · (try dsimp only); (first | with_reducible exact hs0 | with_reducible exact hs3 | with_reducible exact hs4 | with_reducible exact hs1 | with_reducible exact hs2 | go_keep)
                  clear hK K
                  try simp only [Act.put, List.setIfInBounds_toArray, List.set_cons_zero, List.set_cons_succ]
                  refine wpAnyH_ready (rs := [1]) (by kernel_rfl) (by simp) ?_
                  refine AllReadyH.cons (o := { dst := some 38, op := Op.load 22 (Operand.tmp 37), type := 22, pos := "outright.go:34", after := #[{ on := 0, ground := Ground.data }], guard := none }) rfl (fun K hK => ?_) ?_
                  · go_simp
                    refine hK.out _ _ ?_ (fun hHeld2 => ?_)
                    · (try dsimp only); (first | with_reducible exact hs0 | with_reducible exact hs3 | with_reducible exact hs4 | with_reducible exact hs1 | with_reducible exact hs2 | go_keep)
                    clear hK K
                    try simp only [Act.put, List.setIfInBounds_toArray, List.set_cons_zero, List.set_cons_succ]
                    refine wpAnyH_ready (rs := [17]) (by kernel_rfl) (by simp) ?_
                    refine AllReadyH.cons (o := { dst := some 54, op := Op.call { callee := Callee.builtin Builtin.append, args := #[Operand.tmp 38, Operand.tmp 53], argTypes := #[22, 22] }, type := 22, pos := "outright.go:34", after := #[{ on := 1, ground := Ground.data }, { on := 16, ground := Ground.data }, { on := 8, ground := Ground.chain }], guard := none }) rfl (fun K hK => ?_) ?_
                    · refine step_append_run rfl (.tmp 38) (.tmp 53) 22 22 rfl (by simp [Act.eval]) (by simp [Act.eval]) hr ?_
                      refine hK.out _ _ ?_ (fun hHeld2 => ?_)
                      · (try dsimp only); (first | with_reducible exact hs0 | with_reducible exact hs3 | with_reducible exact hs4 | with_reducible exact hs1 | with_reducible exact hs2 | go_keep)
                      clear hK K
                      try simp only [Act.put, List.setIfInBounds_toArray, List.set_cons_zero, List.set_cons_succ]
                      refine wpAnyH_take (i := 18) (oi := { dst := some 55, op := Op.fieldAddr 25 (Operand.tmp 7) 2, type := 0, pos := "outright.go:34", after := #[{ on := 0, ground := Ground.phase }, { on := 1, ground := Ground.phase }, { on := 2, ground := Ground.phase }, { on := 3, ground := Ground.phase }, { on := 4, ground := Ground.phase }, { on := 5, ground := Ground.phase }, { on := 6, ground := Ground.phase }, { on := 7, ground := Ground.phase }, { on := 8, ground := Ground.phase }, { on := 9, ground := Ground.phase }, { on := 10, ground := Ground.phase }, { on := 11, ground := Ground.phase }, { on := 12, ground := Ground.phase }, { on := 13, ground := Ground.phase }, { on := 14, ground := Ground.phase }, { on := 15, ground := Ground.phase }, { on := 16, ground := Ground.phase }, { on := 17, ground := Ground.phase }], guard := none }) (v := ?_) rfl (by kernel_rfl) (by kernel_rfl) (by kernel_rfl) (fun _ _ _ h => h) (Or.inl ⟨by rfl, ?_⟩) (by assumption) ?_
                      rotate_left
                      · (intro wz hSw; (try dsimp only at hSw); go_simp; try with_reducible rfl)
                      simp only [Act.put, List.setIfInBounds_toArray, List.set_cons_zero, List.set_cons_succ]
                      refine wpAnyH_ready (rs := [19]) (by kernel_rfl) (by simp) ?_
                      refine AllReadyH.cons (o := { dst := none, op := Op.store 22 (Operand.tmp 55) (Operand.tmp 54), type := 0, pos := "outright.go:34", after := #[{ on := 18, ground := Ground.data }, { on := 17, ground := Ground.data }, { on := 17, ground := Ground.chain }, { on := 0, ground := Ground.phase }, { on := 1, ground := Ground.phase }, { on := 2, ground := Ground.phase }, { on := 3, ground := Ground.phase }, { on := 4, ground := Ground.phase }, { on := 5, ground := Ground.phase }, { on := 6, ground := Ground.phase }, { on := 7, ground := Ground.phase }, { on := 8, ground := Ground.phase }, { on := 9, ground := Ground.phase }, { on := 10, ground := Ground.phase }, { on := 11, ground := Ground.phase }, { on := 12, ground := Ground.phase }, { on := 13, ground := Ground.phase }, { on := 14, ground := Ground.phase }, { on := 15, ground := Ground.phase }, { on := 16, ground := Ground.phase }, { on := 17, ground := Ground.phase }], guard := none }) rfl (fun K hK => ?_) ?_
                      · go_simp
                        refine hK.out _ _ ?_ (fun hHeld2 => ?_)
                        · (try dsimp only); (first | with_reducible exact hs0 | with_reducible exact hs3 | with_reducible exact hs4 | with_reducible exact hs1 | with_reducible exact hs2 | go_keep)
                        clear hK K
                        try simp only [Act.put, List.setIfInBounds_toArray, List.set_cons_zero, List.set_cons_succ]
                        refine wpAnyH_done (by kernel_rfl) ?_ _
                        go_wp2_with fail
                        go_meet
                        exact ⟨_, HF2.out.1⟩
                      exact AllReadyH.nil
                    exact AllReadyH.nil
                  exact AllReadyH.nil
                exact AllReadyH.nil
              exact AllReadyH.nil
            case rest =>
              have HC : Hid _ := hcut
              have HG : Hid _ := HF2.out.2.1
              clear hcut HF2 hs0 hs1 hs2 hs3 hs4 hr hmod x2 d0 d1 h2c h2d u2 v2 hgo
              go_wp2_with fail
              go_roundw
              case rel => exact ⟨i + 1, HG.out.1, HG.out.2, by go_num, HC.out⟩
              case measure => simp only [intOf]; have := HG.out.1; omega
          · have htk : l.take i = l.take K1 := by
              by_cases e : i < l.length
              · have : i = K1 := by omega
                rw [this]
              · rw [List.take_of_length_le (by omega), List.take_of_length_le (by omega)]
            rw [htk] at hF
            have HF3 : Hid _ := hF
            have hend : ¬ (i : Int) < (n : Int) ∨ ((i : Int) < (n : Int) ∧ ¬ (i : Int) < (K1 : Int)) := by omega
            clear hF htk hgo hi1 hi2 hnl
            rcases hend with e1 | ⟨e1, e2⟩ <;> (go_wp2_with fail; go_meet; exact ⟨_, HF3.out⟩)
      case rest =>
        obtain ⟨vT, hF3⟩ := hcut
        obtain ⟨we, hwe⟩ : ∃ we, we = wc := ⟨_, rfl⟩
        subst hwe
        generalize hTe : fitT (l.take K1) = T at hF3 ⊢
        have HF3 : Hid _ := hF3
        have HTE : Hid _ := hTe
        clear hF3 hTe HF2
        go_upto_block 2 with fail
        go_cut [9] (fun s9 wx => ∃ vP, FitS w wx X Hb (X + 1) #[.int .i64 f, .int .i64 m, .slice ao n c, .int .i64 t, .slice bo k e] (1 + (u : Int)) (1 + (u : Int) + (v : Int)) y vT vP T ((fitP t (z.take K2)).map (fun x : Nat => (x : Int))))
        case first =>
          go_wp2_with fail
          go_loopw [9] (fun s9 wx => ∃ i : Nat, i ≤ z.length ∧ i ≤ K2 ∧ s9 = .int .i64 i ∧ ∃ vP, FitS w wx X Hb (X + 1) #[.int .i64 f, .int .i64 m, .slice ao n c, .int .i64 t, .slice bo k e] (1 + (u : Int)) (1 + (u : Int) + (v : Int)) y vT vP T ((fitP t (z.take i)).map (fun x : Nat => (x : Int)))) (fun s9 _ => z.length - (intOf s9).toNat)
          case atStart => exact ⟨0, Nat.zero_le _, Nat.zero_le _, rfl, _, HF3.out⟩
          case round =>
            obtain ⟨i, hi1, hi2, rfl, vP, hF⟩ := hrel
            have hkl := HT.out.2.2.2
            have x4 := (cell_of_block hF.hX 4).trans rfl
            by_cases hgo : i < z.length ∧ i < K2
            · have j1 : (i : Int) < (k : Int) := by omega
              have j2 : (i : Int) < (K2 : Int) := by omega
              have j3 : (i : Int) ≤ 10000 := by omega
              obtain ⟨b, off, rfl, hb, hcs⟩ := HT.out.2.1 (by omega)
              have c0 := hcs i hgo.1
              have hx : z[i]? = some (z.getD i 0) := by rw [List.getD_eq_getElem?_getD, List.getElem?_eq_getElem hgo.1]; rfl
              generalize z.getD i 0 = zz at c0 hx
              have d0 := hF.kp.cell c0 (fun f => f)
              have hmore := fitP_more (t := t) hx
              rw [HU.out.2.2] at hmore
              have hmod := mod4_any zz (1 + y) (by omega) (by omega)
              have hw3 : IntKind.i64.wrap (1 + (y : Int)) = 1 + (y : Int) := (i64_left _).trans (wrap64_in _ (by omega))
              have ey : ((1 + y : Nat) : Int) = 1 + (y : Int) := by omega
              rw [ey] at hmod
              obtain ⟨PL, hPL⟩ : ∃ PL, PL = (fitP t (z.take i)).map (fun x : Nat => (x : Int)) := ⟨_, rfl⟩
              have hPLl : PL.length ≤ 100000 := by rw [hPL]; simp [fitP]; omega
              rw [← hPL] at hF hmore
              clear hPL
              obtain ⟨xP, cP, hvP⟩ := own_shape hF.oP
              subst hvP
              generalize mdN zz (1 + y) = r at hmore hmod
              have hF1 := (hF.kept (Keeps.drew None wr)).kept (Keeps.alloc None wr.drew (.cells #[.int .i64 (r : Int)] 3))
              obtain ⟨gn, cn, w1, hr, ho, hgr, hmv⟩ := int_app _ PL (r : Int) wr.heap.size 23 _ hF1.oP (by omega) (new_at wr.drew _ _ rfl)
              have hkg := Keeps.grown (S := fun k => (Value.slice xP PL.length cP).ownBlock = some k) hgr (fun _ e => e)
              have hF2 := hF1.addP hkg hmv ho
              rw [← hmore] at hF2
              have hH1 := blkD hF1.hH hkg (fun e => absurd (own_type hF1.oP e hF1.hH) (by decide))
              have u4 := (cell_of_block hH1 4).trans rfl
              have v4 := free_of_block hH1 4
              have HF2 : Hid _ := And.intro hF2 (And.intro hgo hmore)
              have h4c := hF.cs.1.2.2.2.2
              have h4d := (cell_of_block (blkD hF.hH (Keeps.alloc None wr (.cells #[.int .i64 (r : Int)] 3)) (fun f => f)) 4).trans rfl
              have hs0 := And.intro x4 (And.intro d0 hF.cs.1.2.2.2.1)
              have hFa := hF.kept (Keeps.alloc None wr (.cells #[.int .i64 (r : Int)] 3))
              have hs3 := And.intro ((cell_of_block hFa.hX 4).trans rfl : _ = some (.slice (some ⟨b, off, none⟩) k e)) (And.intro (hFa.kp.cell c0 (fun f => f)) hFa.cs.1.2.2.2.1)
              have hs4 := And.intro ((cell_of_block hF1.hX 4).trans rfl : _ = some (.slice (some ⟨b, off, none⟩) k e)) (And.intro (hF1.kp.cell c0 (fun f => f)) hF1.cs.1.2.2.2.1)
              have hkw1 : Keeps None w w1 := hF1.kp.trans hkg (fun q e hq => by have := hF1.lP q e; omega)
              have hs1 := And.intro ((cell_of_block (blkD hF1.hX hkg (fun e => absurd (own_type hF1.oP e hF1.hX) (by decide))) 4).trans rfl : _ = some (.slice (some ⟨b, off, none⟩) k e)) (And.intro (hkw1.cell c0 (fun f => f)) ((cell_of_block hH1 3).trans rfl : _ = some (.int .i64 (y : Int))))
              have hs2 := And.intro ((cell_of_block hF2.hX 4).trans rfl : _ = some (.slice (some ⟨b, off, none⟩) k e)) (And.intro (hF2.kp.cell c0 (fun f => f)) hF2.cs.1.2.2.2.1)
              clear hF hF1 hF2 hFa hmv ho hgr hkg hH1 hkw1 hcs c0 hx hmore hi1 hi2 hb hkl ey
              go_upto_block 3 with fail
              go_cut [81] (fun s81 wx => ∃ vP, FitS w wx X Hb (X + 1) #[.int .i64 f, .int .i64 m, .slice ao n c, .int .i64 t, .slice (some ⟨b, off, none⟩) k e] (1 + (u : Int)) (1 + (u : Int) + (v : Int)) y vT vP T ((fitP t (z.take (i + 1))).map (fun x : Nat => (x : Int))))
              case first =>
                go_upto_region 10 with fail
                refine wp_region_held_drew (S := (fun w' => w'.cell? ⟨X, 4, none⟩ = some (.slice (some ⟨b, off, none⟩) k e) ∧ w'.cell? ⟨b, off + i, none⟩ = some (.int .i64 zz) ∧ w'.cell? ⟨Hb, 3, none⟩ = some (.int .i64 (y : Int)))) (by kernel_rfl) ?_ (fun hHeld => ?_)
                · (try dsimp only); (first | with_reducible exact hs0 | with_reducible exact hs3 | with_reducible exact hs4 | with_reducible exact hs1 | with_reducible exact hs2 | go_keep)
                refine wpAnyH_take (i := 0) (oi := { dst := some 68, op := Op.fieldAddr 25 (Operand.tmp 7) 4, type := 0, pos := "outright.go:37", after := #[], guard := none }) (v := ?_) rfl (by kernel_rfl) (by kernel_rfl) (by kernel_rfl) (fun _ _ _ h => h) (Or.inl ⟨by rfl, ?_⟩) (by assumption) ?_
                rotate_left
                · (intro wz hSw; (try dsimp only at hSw); go_simp; try with_reducible rfl)
                simp only [Act.put, List.setIfInBounds_toArray, List.set_cons_zero, List.set_cons_succ]
                refine wpAnyH_take (i := 2) (oi := { dst := some 70, op := Op.fieldAddr 25 (Operand.tmp 3) 4, type := 0, pos := "outright.go:37", after := #[], guard := none }) (v := ?_) rfl (by kernel_rfl) (by kernel_rfl) (by kernel_rfl) (fun _ _ _ h => h) (Or.inl ⟨by rfl, ?_⟩) (by assumption) ?_
                rotate_left
                · (intro wz hSw; (try dsimp only at hSw); go_simp; try with_reducible rfl)
                simp only [Act.put, List.setIfInBounds_toArray, List.set_cons_zero, List.set_cons_succ]
                refine wpAnyH_take (i := 3) (oi := { dst := some 71, op := Op.load 23 (Operand.tmp 70), type := 23, pos := "outright.go:37", after := #[{ on := 2, ground := Ground.data }], guard := none }) (v := ?_) rfl (by kernel_rfl) (by kernel_rfl) (by kernel_rfl) (fun _ _ _ h => h) (Or.inl ⟨by rfl, ?_⟩) (by assumption) ?_
                rotate_left
                · (intro wz hSw; (try dsimp only at hSw); go_simp; try with_reducible rfl)
                simp only [Act.put, List.setIfInBounds_toArray, List.set_cons_zero, List.set_cons_succ]
                refine wpAnyH_take (i := 4) (oi := { dst := some 72, op := Op.move (Operand.tmp 9), type := 3, pos := "outright.go:37", after := #[], guard := none }) (v := ?_) rfl (by kernel_rfl) (by kernel_rfl) (by kernel_rfl) (fun _ _ _ h => h) (Or.inl ⟨by rfl, ?_⟩) (by assumption) ?_
                rotate_left
                · (intro wz hSw; (try dsimp only at hSw); go_simp; try with_reducible rfl)
                simp only [Act.put, List.setIfInBounds_toArray, List.set_cons_zero, List.set_cons_succ]
                refine wpAnyH_take (i := 5) (oi := { dst := some 73, op := Op.indexAddr 23 (Operand.tmp 71) (Operand.tmp 72), type := 0, pos := "outright.go:37", after := #[{ on := 3, ground := Ground.data }, { on := 4, ground := Ground.data }], guard := none }) (v := ?_) rfl (by kernel_rfl) (by kernel_rfl) (by kernel_rfl) (fun _ _ _ h => h) (Or.inl ⟨by rfl, ?_⟩) (by assumption) ?_
                rotate_left
                · (intro wz hSw; (try dsimp only at hSw); go_simp; try with_reducible rfl)
                simp only [Act.put, List.setIfInBounds_toArray, List.set_cons_zero, List.set_cons_succ]
                refine wpAnyH_take (i := 6) (oi := { dst := some 74, op := Op.load 3 (Operand.tmp 73), type := 3, pos := "outright.go:37", after := #[{ on := 5, ground := Ground.data }], guard := none }) (v := ?_) rfl (by kernel_rfl) (by kernel_rfl) (by kernel_rfl) (fun _ _ _ h => h) (Or.inl ⟨by rfl, ?_⟩) (by assumption) ?_
                rotate_left
                · (intro wz hSw; (try dsimp only at hSw); go_simp; try with_reducible rfl)
                simp only [Act.put, List.setIfInBounds_toArray, List.set_cons_zero, List.set_cons_succ]
                refine wpAnyH_take (i := 7) (oi := { dst := some 75, op := Op.fieldAddr 25 (Operand.tmp 7) 3, type := 0, pos := "outright.go:37", after := #[], guard := none }) (v := ?_) rfl (by kernel_rfl) (by kernel_rfl) (by kernel_rfl) (fun _ _ _ h => h) (Or.inl ⟨by rfl, ?_⟩) (by assumption) ?_
                rotate_left
                · (intro wz hSw; (try dsimp only at hSw); go_simp; try with_reducible rfl)
                simp only [Act.put, List.setIfInBounds_toArray, List.set_cons_zero, List.set_cons_succ]
                refine wpAnyH_take (i := 8) (oi := { dst := some 76, op := Op.load 3 (Operand.tmp 75), type := 3, pos := "outright.go:37", after := #[{ on := 7, ground := Ground.data }], guard := none }) (v := ?_) rfl (by kernel_rfl) (by kernel_rfl) (by kernel_rfl) (fun _ _ _ h => h) (Or.inl ⟨by rfl, ?_⟩) (by assumption) ?_
                rotate_left
                · (intro wz hSw; (try dsimp only at hSw); go_simp; try with_reducible rfl)
                simp only [Act.put, List.setIfInBounds_toArray, List.set_cons_zero, List.set_cons_succ]
                refine wpAnyH_take (i := 9) (oi := { dst := some 77, op := Op.binOp BinOp.add 3 (Operand.const (Value.int IntKind.i64 1)) (Operand.tmp 76) 3, type := 3, pos := "outright.go:37", after := #[{ on := 8, ground := Ground.data }], guard := none }) (v := ?_) rfl (by kernel_rfl) (by kernel_rfl) (by kernel_rfl) (fun _ _ _ h => h) (Or.inl ⟨by rfl, ?_⟩) (by assumption) ?_
                rotate_left
                · (intro wz hSw; (try dsimp only at hSw); go_simp; try with_reducible rfl)
                simp only [Act.put, List.setIfInBounds_toArray, List.set_cons_zero, List.set_cons_succ]
                refine wpAnyH_ready (rs := [1, 10]) (by kernel_rfl) (by simp) ?_
                refine AllReadyH.cons (o := { dst := some 69, op := Op.load 23 (Operand.tmp 68), type := 23, pos := "outright.go:37", after := #[{ on := 0, ground := Ground.data }], guard := none }) rfl (fun K hK => ?_) ?_
                · go_simp
                  refine hK.out _ _ ?_ (fun hHeld2 => ?_)
                  · (try dsimp only); (first | with_reducible exact hs0 | with_reducible exact hs3 | with_reducible exact hs4 | with_reducible exact hs1 | with_reducible exact hs2 | go_keep)
                  clear hK K
                  try simp only [Act.put, List.setIfInBounds_toArray, List.set_cons_zero, List.set_cons_succ]
                  refine wpAnyH_ready (rs := [10]) (by kernel_rfl) (by simp) ?_
                  refine AllReadyH.cons (o := { dst := some 78, op := Op.call { callee := Callee.value (Operand.func 9), args := #[Operand.tmp 74, Operand.tmp 77], argTypes := #[3, 3] }, type := 3, pos := "outright.go:37", after := #[{ on := 6, ground := Ground.data }, { on := 9, ground := Ground.data }], guard := none }) rfl (fun K hK => ?_) ?_
                  · go_simp
                    refine (hmod _).mono ?_
                    rintro _ w8 ⟨rfl, hw8⟩
                    have hv8 := hw8.symm
                    subst hv8
                    clear hw8
                    refine hK.out _ _ ?_ (fun hHeld2 => ?_)
                    · (try dsimp only); (first | with_reducible exact hs0 | with_reducible exact hs3 | with_reducible exact hs4 | with_reducible exact hs1 | with_reducible exact hs2 | go_keep)
                    clear hK K
                    try simp only [Act.put, List.setIfInBounds_toArray, List.set_cons_zero, List.set_cons_succ]
                    refine wpAnyH_ready (rs := [11]) (by kernel_rfl) (by simp) ?_
                    refine AllReadyH.cons (o := { dst := some 79, op := Op.buildSlice 23 1 #[(0, Operand.tmp 78)], type := 23, pos := "outright.go:37", after := #[{ on := 10, ground := Ground.data }], guard := none }) rfl (fun K hK => ?_) ?_
                    · go_simp
                      refine hK.out _ _ ?_ (fun hHeld2 => ?_)
                      · (try dsimp only); (first | with_reducible exact hs0 | with_reducible exact hs3 | with_reducible exact hs4 | with_reducible exact hs1 | with_reducible exact hs2 | go_keep)
                      clear hK K
                      try simp only [Act.put, List.setIfInBounds_toArray, List.set_cons_zero, List.set_cons_succ]
                      refine wpAnyH_ready (rs := [12]) (by kernel_rfl) (by simp) ?_
                      refine AllReadyH.cons (o := { dst := some 80, op := Op.call { callee := Callee.builtin Builtin.append, args := #[Operand.tmp 69, Operand.tmp 79], argTypes := #[23, 23] }, type := 23, pos := "outright.go:37", after := #[{ on := 1, ground := Ground.data }, { on := 11, ground := Ground.data }, { on := 10, ground := Ground.chain }], guard := none }) rfl (fun K hK => ?_) ?_
                      · refine step_append_run rfl (.tmp 69) (.tmp 79) 23 23 rfl (by simp [Act.eval]) (by simp [Act.eval]) hr ?_
                        refine hK.out _ _ ?_ (fun hHeld2 => ?_)
                        · (try dsimp only); (first | with_reducible exact hs0 | with_reducible exact hs3 | with_reducible exact hs4 | with_reducible exact hs1 | with_reducible exact hs2 | go_keep)
                        clear hK K
                        try simp only [Act.put, List.setIfInBounds_toArray, List.set_cons_zero, List.set_cons_succ]
                        refine wpAnyH_take (i := 13) (oi := { dst := some 81, op := Op.fieldAddr 25 (Operand.tmp 7) 4, type := 0, pos := "outright.go:37", after := #[{ on := 0, ground := Ground.phase }, { on := 1, ground := Ground.phase }, { on := 2, ground := Ground.phase }, { on := 3, ground := Ground.phase }, { on := 4, ground := Ground.phase }, { on := 5, ground := Ground.phase }, { on := 6, ground := Ground.phase }, { on := 7, ground := Ground.phase }, { on := 8, ground := Ground.phase }, { on := 9, ground := Ground.phase }, { on := 10, ground := Ground.phase }, { on := 11, ground := Ground.phase }, { on := 12, ground := Ground.phase }], guard := none }) (v := ?_) rfl (by kernel_rfl) (by kernel_rfl) (by kernel_rfl) (fun _ _ _ h => h) (Or.inl ⟨by rfl, ?_⟩) (by assumption) ?_
                        rotate_left
                        · (intro wz hSw; (try dsimp only at hSw); go_simp; try with_reducible rfl)
                        simp only [Act.put, List.setIfInBounds_toArray, List.set_cons_zero, List.set_cons_succ]
                        refine wpAnyH_ready (rs := [14]) (by kernel_rfl) (by simp) ?_
                        refine AllReadyH.cons (o := { dst := none, op := Op.store 23 (Operand.tmp 81) (Operand.tmp 80), type := 0, pos := "outright.go:37", after := #[{ on := 13, ground := Ground.data }, { on := 12, ground := Ground.data }, { on := 12, ground := Ground.chain }, { on := 0, ground := Ground.phase }, { on := 1, ground := Ground.phase }, { on := 2, ground := Ground.phase }, { on := 3, ground := Ground.phase }, { on := 4, ground := Ground.phase }, { on := 5, ground := Ground.phase }, { on := 6, ground := Ground.phase }, { on := 7, ground := Ground.phase }, { on := 8, ground := Ground.phase }, { on := 9, ground := Ground.phase }, { on := 10, ground := Ground.phase }, { on := 11, ground := Ground.phase }, { on := 12, ground := Ground.phase }], guard := none }) rfl (fun K hK => ?_) ?_
                        · go_simp
                          refine hK.out _ _ ?_ (fun hHeld2 => ?_)
                          · (try dsimp only); (first | with_reducible exact hs0 | with_reducible exact hs3 | with_reducible exact hs4 | with_reducible exact hs1 | with_reducible exact hs2 | go_keep)
                          clear hK K
                          try simp only [Act.put, List.setIfInBounds_toArray, List.set_cons_zero, List.set_cons_succ]
                          refine wpAnyH_done (by kernel_rfl) ?_ _
                          go_wp2_with fail
                          go_meet
                          exact ⟨_, HF2.out.1⟩
                        exact AllReadyH.nil
                      exact AllReadyH.nil
                    exact AllReadyH.nil
                  exact AllReadyH.nil
                refine AllReadyH.cons (o := { dst := some 78, op := Op.call { callee := Callee.value (Operand.func 9), args := #[Operand.tmp 74, Operand.tmp 77], argTypes := #[3, 3] }, type := 3, pos := "outright.go:37", after := #[{ on := 6, ground := Ground.data }, { on := 9, ground := Ground.data }], guard := none }) rfl (fun K hK => ?_) ?_
                · go_simp
                  refine (hmod _).mono ?_
                  rintro _ w8 ⟨rfl, hw8⟩
                  have hv8 := hw8.symm
                  subst hv8
                  clear hw8
                  refine hK.out _ _ ?_ (fun hHeld2 => ?_)
                  · (try dsimp only); (first | with_reducible exact hs0 | with_reducible exact hs3 | with_reducible exact hs4 | with_reducible exact hs1 | with_reducible exact hs2 | go_keep)
                  clear hK K
                  try simp only [Act.put, List.setIfInBounds_toArray, List.set_cons_zero, List.set_cons_succ]
                  refine wpAnyH_ready (rs := [1, 11]) (by kernel_rfl) (by simp) ?_
                  refine AllReadyH.cons (o := { dst := some 69, op := Op.load 23 (Operand.tmp 68), type := 23, pos := "outright.go:37", after := #[{ on := 0, ground := Ground.data }], guard := none }) rfl (fun K hK => ?_) ?_
                  · go_simp
                    refine hK.out _ _ ?_ (fun hHeld2 => ?_)
                    · (try dsimp only); (first | with_reducible exact hs0 | with_reducible exact hs3 | with_reducible exact hs4 | with_reducible exact hs1 | with_reducible exact hs2 | go_keep)
                    clear hK K
                    try simp only [Act.put, List.setIfInBounds_toArray, List.set_cons_zero, List.set_cons_succ]
                    refine wpAnyH_ready (rs := [11]) (by kernel_rfl) (by simp) ?_
                    refine AllReadyH.cons (o := { dst := some 79, op := Op.buildSlice 23 1 #[(0, Operand.tmp 78)], type := 23, pos := "outright.go:37", after := #[{ on := 10, ground := Ground.data }], guard := none }) rfl (fun K hK => ?_) ?_
                    · go_simp
                      refine hK.out _ _ ?_ (fun hHeld2 => ?_)
                      · (try dsimp only); (first | with_reducible exact hs0 | with_reducible exact hs3 | with_reducible exact hs4 | with_reducible exact hs1 | with_reducible exact hs2 | go_keep)
                      clear hK K
                      try simp only [Act.put, List.setIfInBounds_toArray, List.set_cons_zero, List.set_cons_succ]
                      refine wpAnyH_ready (rs := [12]) (by kernel_rfl) (by simp) ?_
                      refine AllReadyH.cons (o := { dst := some 80, op := Op.call { callee := Callee.builtin Builtin.append, args := #[Operand.tmp 69, Operand.tmp 79], argTypes := #[23, 23] }, type := 23, pos := "outright.go:37", after := #[{ on := 1, ground := Ground.data }, { on := 11, ground := Ground.data }, { on := 10, ground := Ground.chain }], guard := none }) rfl (fun K hK => ?_) ?_
                      · refine step_append_run rfl (.tmp 69) (.tmp 79) 23 23 rfl (by simp [Act.eval]) (by simp [Act.eval]) hr ?_
                        refine hK.out _ _ ?_ (fun hHeld2 => ?_)
                        · (try dsimp only); (first | with_reducible exact hs0 | with_reducible exact hs3 | with_reducible exact hs4 | with_reducible exact hs1 | with_reducible exact hs2 | go_keep)
                        clear hK K
                        try simp only [Act.put, List.setIfInBounds_toArray, List.set_cons_zero, List.set_cons_succ]
                        refine wpAnyH_take (i := 13) (oi := { dst := some 81, op := Op.fieldAddr 25 (Operand.tmp 7) 4, type := 0, pos := "outright.go:37", after := #[{ on := 0, ground := Ground.phase }, { on := 1, ground := Ground.phase }, { on := 2, ground := Ground.phase }, { on := 3, ground := Ground.phase }, { on := 4, ground := Ground.phase }, { on := 5, ground := Ground.phase }, { on := 6, ground := Ground.phase }, { on := 7, ground := Ground.phase }, { on := 8, ground := Ground.phase }, { on := 9, ground := Ground.phase }, { on := 10, ground := Ground.phase }, { on := 11, ground := Ground.phase }, { on := 12, ground := Ground.phase }], guard := none }) (v := ?_) rfl (by kernel_rfl) (by kernel_rfl) (by kernel_rfl) (fun _ _ _ h => h) (Or.inl ⟨by rfl, ?_⟩) (by assumption) ?_
                        rotate_left
                        · (intro wz hSw; (try dsimp only at hSw); go_simp; try with_reducible rfl)
                        simp only [Act.put, List.setIfInBounds_toArray, List.set_cons_zero, List.set_cons_succ]
                        refine wpAnyH_ready (rs := [14]) (by kernel_rfl) (by simp) ?_
                        refine AllReadyH.cons (o := { dst := none, op := Op.store 23 (Operand.tmp 81) (Operand.tmp 80), type := 0, pos := "outright.go:37", after := #[{ on := 13, ground := Ground.data }, { on := 12, ground := Ground.data }, { on := 12, ground := Ground.chain }, { on := 0, ground := Ground.phase }, { on := 1, ground := Ground.phase }, { on := 2, ground := Ground.phase }, { on := 3, ground := Ground.phase }, { on := 4, ground := Ground.phase }, { on := 5, ground := Ground.phase }, { on := 6, ground := Ground.phase }, { on := 7, ground := Ground.phase }, { on := 8, ground := Ground.phase }, { on := 9, ground := Ground.phase }, { on := 10, ground := Ground.phase }, { on := 11, ground := Ground.phase }, { on := 12, ground := Ground.phase }], guard := none }) rfl (fun K hK => ?_) ?_
                        · go_simp
                          refine hK.out _ _ ?_ (fun hHeld2 => ?_)
                          · (try dsimp only); (first | with_reducible exact hs0 | with_reducible exact hs3 | with_reducible exact hs4 | with_reducible exact hs1 | with_reducible exact hs2 | go_keep)
                          clear hK K
                          try simp only [Act.put, List.setIfInBounds_toArray, List.set_cons_zero, List.set_cons_succ]
                          refine wpAnyH_done (by kernel_rfl) ?_ _
                          go_wp2_with fail
                          go_meet
                          exact ⟨_, HF2.out.1⟩
                        exact AllReadyH.nil
                      exact AllReadyH.nil
                    exact AllReadyH.nil
                  refine AllReadyH.cons (o := { dst := some 79, op := Op.buildSlice 23 1 #[(0, Operand.tmp 78)], type := 23, pos := "outright.go:37", after := #[{ on := 10, ground := Ground.data }], guard := none }) rfl (fun K hK => ?_) ?_
                  · go_simp
                    refine hK.out _ _ ?_ (fun hHeld2 => ?_)
                    · (try dsimp only); (first | with_reducible exact hs0 | with_reducible exact hs3 | with_reducible exact hs4 | with_reducible exact hs1 | with_reducible exact hs2 | go_keep)
                    clear hK K
                    try simp only [Act.put, List.setIfInBounds_toArray, List.set_cons_zero, List.set_cons_succ]
                    refine wpAnyH_ready (rs := [1]) (by kernel_rfl) (by simp) ?_
                    refine AllReadyH.cons (o := { dst := some 69, op := Op.load 23 (Operand.tmp 68), type := 23, pos := "outright.go:37", after := #[{ on := 0, ground := Ground.data }], guard := none }) rfl (fun K hK => ?_) ?_
                    · go_simp
                      refine hK.out _ _ ?_ (fun hHeld2 => ?_)
                      · (try dsimp only); (first | with_reducible exact hs0 | with_reducible exact hs3 | with_reducible exact hs4 | with_reducible exact hs1 | with_reducible exact hs2 | go_keep)
                      clear hK K
                      try simp only [Act.put, List.setIfInBounds_toArray, List.set_cons_zero, List.set_cons_succ]
                      refine wpAnyH_ready (rs := [12]) (by kernel_rfl) (by simp) ?_
                      refine AllReadyH.cons (o := { dst := some 80, op := Op.call { callee := Callee.builtin Builtin.append, args := #[Operand.tmp 69, Operand.tmp 79], argTypes := #[23, 23] }, type := 23, pos := "outright.go:37", after := #[{ on := 1, ground := Ground.data }, { on := 11, ground := Ground.data }, { on := 10, ground := Ground.chain }], guard := none }) rfl (fun K hK => ?_) ?_
                      · refine step_append_run rfl (.tmp 69) (.tmp 79) 23 23 rfl (by simp [Act.eval]) (by simp [Act.eval]) hr ?_
                        refine hK.out _ _ ?_ (fun hHeld2 => ?_)
                        · (try dsimp only); (first | with_reducible exact hs0 | with_reducible exact hs3 | with_reducible exact hs4 | with_reducible exact hs1 | with_reducible exact hs2 | go_keep)
                        clear hK K
                        try simp only [Act.put, List.setIfInBounds_toArray, List.set_cons_zero, List.set_cons_succ]
                        refine wpAnyH_take (i := 13) (oi := { dst := some 81, op := Op.fieldAddr 25 (Operand.tmp 7) 4, type := 0, pos := "outright.go:37", after := #[{ on := 0, ground := Ground.phase }, { on := 1, ground := Ground.phase }, { on := 2, ground := Ground.phase }, { on := 3, ground := Ground.phase }, { on := 4, ground := Ground.phase }, { on := 5, ground := Ground.phase }, { on := 6, ground := Ground.phase }, { on := 7, ground := Ground.phase }, { on := 8, ground := Ground.phase }, { on := 9, ground := Ground.phase }, { on := 10, ground := Ground.phase }, { on := 11, ground := Ground.phase }, { on := 12, ground := Ground.phase }], guard := none }) (v := ?_) rfl (by kernel_rfl) (by kernel_rfl) (by kernel_rfl) (fun _ _ _ h => h) (Or.inl ⟨by rfl, ?_⟩) (by assumption) ?_
                        rotate_left
                        · (intro wz hSw; (try dsimp only at hSw); go_simp; try with_reducible rfl)
                        simp only [Act.put, List.setIfInBounds_toArray, List.set_cons_zero, List.set_cons_succ]
                        refine wpAnyH_ready (rs := [14]) (by kernel_rfl) (by simp) ?_
                        refine AllReadyH.cons (o := { dst := none, op := Op.store 23 (Operand.tmp 81) (Operand.tmp 80), type := 0, pos := "outright.go:37", after := #[{ on := 13, ground := Ground.data }, { on := 12, ground := Ground.data }, { on := 12, ground := Ground.chain }, { on := 0, ground := Ground.phase }, { on := 1, ground := Ground.phase }, { on := 2, ground := Ground.phase }, { on := 3, ground := Ground.phase }, { on := 4, ground := Ground.phase }, { on := 5, ground := Ground.phase }, { on := 6, ground := Ground.phase }, { on := 7, ground := Ground.phase }, { on := 8, ground := Ground.phase }, { on := 9, ground := Ground.phase }, { on := 10, ground := Ground.phase }, { on := 11, ground := Ground.phase }, { on := 12, ground := Ground.phase }], guard := none }) rfl (fun K hK => ?_) ?_
                        · go_simp
                          refine hK.out _ _ ?_ (fun hHeld2 => ?_)
                          · (try dsimp only); (first | with_reducible exact hs0 | with_reducible exact hs3 | with_reducible exact hs4 | with_reducible exact hs1 | with_reducible exact hs2 | go_keep)
                          clear hK K
                          try simp only [Act.put, List.setIfInBounds_toArray, List.set_cons_zero, List.set_cons_succ]
                          refine wpAnyH_done (by kernel_rfl) ?_ _
                          go_wp2_with fail
                          go_meet
                          exact ⟨_, HF2.out.1⟩
                        exact AllReadyH.nil
                      exact AllReadyH.nil
                    exact AllReadyH.nil
                  exact AllReadyH.nil
                exact AllReadyH.nil
              case rest =>
                have HC : Hid _ := hcut
                have HG : Hid _ := HF2.out.2.1
                clear hcut HF2 hs0 hs1 hs2 hs3 hs4 hr hmod x4 d0 h4c h4d u4 v4 hgo
                go_wp2_with fail
                go_roundw
                case rel => exact ⟨i + 1, HG.out.1, HG.out.2, by go_num, HC.out⟩
                case measure => simp only [intOf]; have := HG.out.1; omega
            · have htk : z.take i = z.take K2 := by
                by_cases e : i < z.length
                · have : i = K2 := by omega
                  rw [this]
                · rw [List.take_of_length_le (by omega), List.take_of_length_le (by omega)]
              rw [htk] at hF
              have HF4 : Hid _ := hF
              have hend : ¬ (i : Int) < (k : Int) ∨ ((i : Int) < (k : Int) ∧ ¬ (i : Int) < (K2 : Int)) := by omega
              clear hF htk hgo hi1 hi2 hkl
              rcases hend with e1 | ⟨e1, e2⟩ <;> (go_wp2_with fail; go_meet; exact ⟨_, HF4.out⟩)
        case rest =>
          obtain ⟨vP, hF⟩ := hcut
          obtain ⟨wf, hwf⟩ : ∃ wf, wf = wc := ⟨_, rfl⟩
          subst hwf
          obtain ⟨xT, cT, hvT⟩ := own_shape hF.oT
          obtain ⟨xP, cP, hvP⟩ := own_shape hF.oP
          subst hvT hvP
          have g0 := hF.cs.1.1
          have g1 := hF.cs.1.2.1
          have g2 := hF.cs.1.2.2.1
          have g3 := hF.cs.1.2.2.2.1
          have g4 := hF.cs.1.2.2.2.2
          have r0 := (cell_of_block hF.hR 0).trans rfl
          have r1 := (cell_of_block hF.hR 1).trans rfl
          have r2 := (cell_of_block hF.hR 2).trans rfl
          have r3 := (cell_of_block hF.hR 3).trans rfl
          have r4 := (cell_of_block hF.hR 4).trans rfl
          have q0 := free_of_block hF.hR 0
          have q1 := free_of_block hF.hR 1
          have q2 := free_of_block hF.hR 2
          have q3 := free_of_block hF.hR 3
          have q4 := free_of_block hF.hR 4
          have HF5 : Hid _ := hF
          clear hF HF3
          go_wp2_with fail
          refine game_end 6 rfl rfl HF5.out.hR rfl rfl _ _ _ _ _ (fun w' hk => ⟨_, _, by rw [HFV.out.1, HFV.out.2]; rfl, ?_⟩)
          have hF5 := HF5.out
          have oP := hF5.oP
          have lP := hF5.lP
          simp only [List.length_map] at oP lP
          refine ⟨hF5.kp.trans hk (fun q e hq => by have := hF5.lR; omega), by rw [HTE.out]; exact hk.own hF5.oT (fun q e e2 => absurd (own_type hF5.oT (e2 ▸ e) hF5.hR) (by decide)), ?_, hF5.lT, lP⟩
          simp only [List.length_map]
          exact hk.own oP (fun q e e2 => absurd (own_type oP (e2 ▸ e) hF5.hR) (by decide))
end Go.Proofs.Ytaeooljfilkaeaa
