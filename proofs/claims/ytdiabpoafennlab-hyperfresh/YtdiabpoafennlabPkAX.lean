import Derived.Test.YtdiabpoafennlabPkAW
import Derived.Test.YtdiabpoafennlabPkAH
import Derived.Test.YtdiabpoafennlabPkAR
import Derived.Deep.Cut
import Derived.Test.YtdiabpoafennlabPkAJ
import Derived.Laws.EntriesVeiled
import Derived.Test.YtdiabpoafennlabPkAS
/-! A play of numbers, in memory. -/
namespace Go.Proofs.Ytdiabpoafennlab.Nm
set_option linter.unusedVariables false
set_option maxRecDepth 20000
set_option linter.unusedSimpArgs false
open Go.RowKit Go.HeapKit Go.PlainOps

theorem PM.start {w : World} {K0 : NP} {base pb : Nat} {st : List Bool} {pk : List Int} {sa pa : Option Addr} {sc pc : Nat} (hb : w.heap[pb]? = some (.cells #[.func (.func 51) #[] #[.pointer (some ⟨K0.pu, 0, none⟩)], .func (.func 49) #[] #[.pointer (some ⟨K0.pa, 0, none⟩)], .func (.func 49) #[] #[.pointer (some ⟨K0.pa, 0, none⟩)], .func (.func 52) #[] #[],
    .slice sa st.length sc, .slice pa pk.length pc, .slice none 0 0, .slice none 0 0, .int .i64 0, .slice none 0 0, .slice none 0 0] 76 (0, 0))) (hl : base ≤ pb) (hA : Ar w base sa pa pc st pk K0) :
    PM w base pb st ⟨sa, sc, pa, pc, none, 0, none, 0, none, 0, none, 0⟩ K0 (fun _ => .slice none 0 0) (fun _ => .slice none 0 0) ⟨[], [], pk, 0, [], []⟩ := by
  exact ⟨hb, hl, ⟨row_nil _ _ _ _, row_nil _ _ _ _, fun b n c m d e => by simp [Value.ownBlock] at e⟩, ⟨row_nil _ _ _ _, fun i hi => by simp at hi, fun i j b hi => by simp at hi⟩, hA, row_nil _ _ _ _⟩
/-- The root begins. -/
theorem PM.firstTask {w w1 : World} {base pb : Nat} {st : List Bool} {X : PX} {K : NP} {H R : Nat → Value} {s : PS} (h : PM w base pb st X K H R s) (hs : s.tk = []) {x : Nat × List Nat} {V : Value} {g : Nat} (hk : Keeps None w w1) (hV : w1.ownsRow base 3 1 V x.2.length (nv x.2)) (hT : w1.ownsRow base 89 2 (.slice (some ⟨g, 0, none⟩) 1 1) 1 [.int .i64 x.1, V]) :
    PM (w1.setCell ⟨pb, 7, none⟩ (.slice (some ⟨g, 0, none⟩) 1 1)) base pb st { X with ta := some ⟨g, 0, none⟩, tc := 1 } K (fun _ => V) (fun _ => V) { s with tk := [x] } := by
  have h1 := h.more hk
  refine PM.put (c := cells X st K s) h1.blk h.low (by simp [cells]) h1.vw ⟨?_, ?_, ?_⟩ h1.ar h1.mg
  · show w1.ownsRow base 89 2 (.slice (some ⟨g, 0, none⟩) 1 1) 1 ((List.range (1 * 2)).map (tkF [x] (fun _ => V)))
    have e : (List.range (1 * 2)).map (tkF [x] (fun _ => V)) = [.int .i64 x.1, V] := by simp [List.range_succ, tkF]
    rw [e]
    exact hT
  · intro i hi
    have hi0 : i = 0 := by have : i < [x].length := hi; simpa using this
    subst hi0
    exact hV
  · intro i j b hi hj hij
    have h1 : i < [x].length := hi
    have h2 : j < [x].length := hj
    simp at h1 h2
    omega
set_option maxHeartbeats 6400000 in
theorem play_ok (K0 : NP) (a : Option Addr) (n c : Nat) (l : List Dd) (sa : Option Addr) (sc : Nat) (st : List Bool) (pa : Option Addr) (pc : Nat) (pk : List Int) (w : World) (hS : Seen w a n l) (hT : SeenV w sa st.length (bv' st)) (hP : SeenV w pa pk.length (iv pk)) (hpc : pk.length ≤ pc) (hn : n ≤ 4096) (hst : st.length ≤ 4096) (hc : chkL l 0 0 = none) (hu : hasU K0.op = true) (hf : Fits (putsL (l.map dp))) (hb1 : w.cell? ⟨K0.pa, 0, none⟩ = some (.int .i64 K0.op)) (hb2 : w.cell? ⟨K0.pu, 0, none⟩ = some (.int .i64 (unitV K0.op))) :
    Calls Try.prog 24 #[.agg #[.func (.func 51) #[] #[.pointer (some ⟨K0.pu, 0, none⟩)], .func (.func 49) #[] #[.pointer (some ⟨K0.pa, 0, none⟩)], .func (.func 49) #[] #[.pointer (some ⟨K0.pa, 0, none⟩)], .func (.func 52) #[] #[]], .slice a n c, .slice sa st.length sc, .slice pa pk.length pc] w fun e w' =>
      ∃ pb X R, e = .returned (.pointer (some ⟨pb, 0, none⟩)) ∧ PM w' w.heap.size pb st X K0 R R ⟨(endMS listK st (l.map dp) pk).vs, [], (endMS listK st (l.map dp) pk).pk, (endHS listK st (l.map dp) pk).spn, (endMS listK st (l.map dp) pk).mg, (endHS listK st (l.map dp) pk).lk⟩ ∧ Keeps None w w' := by
  have HSS : Hid (Seen w a n l ∧ SeenV w sa st.length (bv' st) ∧ SeenV w pa pk.length (iv pk) ∧ pk.length ≤ pc ∧ n = l.length ∧ chkL l 0 0 = none) := ⟨hS, hT, hP, hpc, hS.len, hc⟩
  have HU : Hid (hasU K0.op = true ∧ Fits (putsL (l.map dp))) := ⟨hu, hf⟩
  have HBX : Hid (w.cell? ⟨K0.pa, 0, none⟩ = some (.int .i64 K0.op) ∧ w.cell? ⟨K0.pu, 0, none⟩ = some (.int .i64 (unitV K0.op)) ∧ K0.pa < w.heap.size ∧ K0.pu < w.heap.size) := ⟨hb1, hb2, cell_lt hb1, cell_lt hb2⟩
  clear hS hT hP hpc hc hu hf hb1 hb2
  go_enter Try.func24, Try.ntmps24
  go_upto_region 2 with fail
  obtain ⟨B, hB⟩ : ∃ B, B = w.heap.size := ⟨_, rfl⟩
  have hk0 := (Keeps.alloc None w (.cells #[.func (.func 51) #[] #[.pointer (some ⟨K0.pu, 0, none⟩)], .func (.func 49) #[] #[.pointer (some ⟨K0.pa, 0, none⟩)], .func (.func 49) #[] #[.pointer (some ⟨K0.pa, 0, none⟩)], .func (.func 52) #[] #[]] 74)).andAlloc (.cells #[.func (.func 51) #[] #[.pointer (some ⟨K0.pu, 0, none⟩)], .func (.func 49) #[] #[.pointer (some ⟨K0.pa, 0, none⟩)], .func (.func 49) #[] #[.pointer (some ⟨K0.pa, 0, none⟩)], .func (.func 52) #[] #[], .slice sa st.length sc, .slice pa pk.length pc, .slice none 0 0, .slice none 0 0, .int .i64 0, .slice none 0 0, .slice none 0 0] 76)
  have hb0 := blk_new (w.alloc (.cells #[.func (.func 51) #[] #[.pointer (some ⟨K0.pu, 0, none⟩)], .func (.func 49) #[] #[.pointer (some ⟨K0.pa, 0, none⟩)], .func (.func 49) #[] #[.pointer (some ⟨K0.pa, 0, none⟩)], .func (.func 52) #[] #[]] 74)) (.cells #[.func (.func 51) #[] #[.pointer (some ⟨K0.pu, 0, none⟩)], .func (.func 49) #[] #[.pointer (some ⟨K0.pa, 0, none⟩)], .func (.func 49) #[] #[.pointer (some ⟨K0.pa, 0, none⟩)], .func (.func 52) #[] #[], .slice sa st.length sc, .slice pa pk.length pc, .slice none 0 0, .slice none 0 0, .int .i64 0, .slice none 0 0, .slice none 0 0] 76) (B + 1) (by simp; omega)
  rw [← hB]
  have HB : Hid (B = w.heap.size) := hB
  generalize (w.alloc (.cells #[.func (.func 51) #[] #[.pointer (some ⟨K0.pu, 0, none⟩)], .func (.func 49) #[] #[.pointer (some ⟨K0.pa, 0, none⟩)], .func (.func 49) #[] #[.pointer (some ⟨K0.pa, 0, none⟩)], .func (.func 52) #[] #[]] 74)).alloc (.cells #[.func (.func 51) #[] #[.pointer (some ⟨K0.pu, 0, none⟩)], .func (.func 49) #[] #[.pointer (some ⟨K0.pa, 0, none⟩)], .func (.func 49) #[] #[.pointer (some ⟨K0.pa, 0, none⟩)], .func (.func 52) #[] #[], .slice sa st.length sc, .slice pa pk.length pc, .slice none 0 0, .slice none 0 0, .int .i64 0, .slice none 0 0, .slice none 0 0] 76) = wb at *
  have HP0 : Hid (PM wb B (B + 1) st ⟨sa, sc, pa, pc, none, 0, none, 0, none, 0, none, 0⟩ K0 (fun _ => .slice none 0 0) (fun _ => .slice none 0 0) ⟨[], [], pk, 0, [], []⟩ ∧ Keeps (fun i => B ≤ i) w wb) := by
    refine ⟨PM.start hb0 (by omega) ⟨⟨HSS.out.2.1.more hk0, HSS.out.2.2.1.more hk0, fun b e h0 => ?_, fun b e h0 => ?_, HSS.out.2.2.2.1⟩, hk0.cell HBX.out.1 (fun f => f), hk0.cell HBX.out.2.1 (fun f => f), by have := HBX.out.2.2.1; omega, by have := HBX.out.2.2.2; omega⟩, hk0.mono (fun _ f _ => f.elim)⟩
    · obtain ⟨b', off, e', hlt, _⟩ := HSS.out.2.1.ex h0
      rw [e'] at e
      simp [blockOf] at e
      omega
    · obtain ⟨b', off, e', hlt, _⟩ := HSS.out.2.2.1.ex h0
      rw [e'] at e
      simp [blockOf] at e
      omega
  clear hb0 hk0 hB
  go_wp2_with fail
  refine (newView_ok B (B + 1) st _ _ _ _ _ wb HP0.out.1 HP0.out.1.sizeLe (by simp)).mono ?_
  rintro e w2 ⟨rfl, ⟨X2, hM2, hta2⟩, hk2⟩
  have hd2 := (Keeps.alloc None w2 (.cells #[.int .i64 (0 : Nat)] 3)).andAlloc (.cells #[.int .i64 (0 : Nat), .slice (some ⟨w2.heap.size, 0, none⟩) 1 1] 89)
  have ho1 := (own_one (w := w2) (base := B) 0 hM2.sizeLe).alloc (.cells #[.int .i64 (0 : Nat), .slice (some ⟨w2.heap.size, 0, none⟩) 1 1] 89)
  have ho2 := own_task (w := w2.alloc (.cells #[.int .i64 (0 : Nat)] 3)) (base := B) 0 (.slice (some ⟨w2.heap.size, 0, none⟩) 1 1) (by have := hM2.sizeLe; simp; omega)
  have hM3 := hM2.firstTask rfl (x := (0, [0])) hd2 ho1 ho2
  have f7 := (hM2.more hd2).free 7
  have z7 := (hM2.more hd2).c0.2.2.2.2.2.2.2.1
  rw [show (w2.alloc (.cells #[.int .i64 (0 : Nat)] 3)).heap.size = w2.heap.size + 1 by simp] at hM3
  simp only [Int.ofNat_zero, List.length_nil] at hM3 f7 z7 ⊢
  have hkw := (HP0.out.2.trans hk2 (fun i e _ => e)).trans hd2 (fun _ f _ => f.elim)
  simp only [Int.ofNat_zero] at hkw
  have HM3 : Hid _ := hM3
  have HKW : Hid _ := hkw
  clear hM3 hkw ho1 ho2 hd2 hk2 hM2 hta2
  go_wp2_with fail
  have HM4 : Hid ((∃ X R, PM (((w2.alloc (.cells #[.int .i64 0] 3)).alloc (.cells #[.int .i64 0, .slice (some ⟨w2.heap.size, 0, none⟩) 1 1] 89)).setCell ⟨B + 1, 7, none⟩ (.slice (some ⟨w2.heap.size + 1, 0, none⟩) 1 1)) B (B + 1) st X K0 R R (psS (HS.start listK pk))) ∧ Keeps (fun i => B ≤ i) w (((w2.alloc (.cells #[.int .i64 0] 3)).alloc (.cells #[.int .i64 0, .slice (some ⟨w2.heap.size, 0, none⟩) 1 1] 89)).setCell ⟨B + 1, 7, none⟩ (.slice (some ⟨w2.heap.size + 1, 0, none⟩) 1 1))) := ⟨⟨_, _, HM3.out⟩, HKW.out.andSet (x := ⟨B + 1, 7, none⟩) (.inl (by show B ≤ B + 1; omega)) _⟩
  generalize ((w2.alloc (.cells #[.int .i64 0] 3)).alloc (.cells #[.int .i64 0, .slice (some ⟨w2.heap.size, 0, none⟩) 1 1] 89)).setCell ⟨B + 1, 7, none⟩ (.slice (some ⟨w2.heap.size + 1, 0, none⟩) 1 1) = w4 at *
  clear f7 z7 HM3 HKW HP0
  go_loopw [10, 11, 27] (fun _ _ i wr => ∃ (k d : Nat) (s : HS (List Int)) (P : List Int) (X : PX) (R : Nat → Value), k ≤ n ∧ i = .int .i64 k ∧ PM wr B (B + 1) st X K0 R R (psS s) ∧ Okd k d P s ∧ s.run listK st ((l.drop k).map dp) k = endHS listK st (l.map dp) pk ∧ chkL (l.drop k) k d = none ∧ P ++ putsL ((l.drop k).map dp) = putsL (l.map dp) ∧ Keeps (fun i => B ≤ i) w wr) (fun _ _ i _ => n - (intOf i).toNat)
  case atStart =>
    obtain ⟨⟨X, R, h1⟩, h2⟩ := HM4.out
    exact ⟨0, 0, HS.start listK pk, [], X, R, Nat.zero_le _, rfl, h1, okd_start pk, rfl, HSS.out.2.2.2.2.2, rfl, h2⟩
  case round =>
    clear HM4
    obtain ⟨k, d, s, P, X, R, hk, rfl, hM, hok, hrun, hchk, hput, hkp⟩ := hrel
    have hlen := HSS.out.2.2.2.2.1
    by_cases hkn : k < n
    · have hBw : w.heap.size ≤ B := by have := HB.out; omega
      obtain ⟨b, off, x, rfl, hb, hx, u0, u1⟩ := (HSS.out.1.below (hkp.mono (fun i e _ => e)) hBw).elem hkn
      obtain ⟨hbad, hchk2⟩ := chkL_ok hx hchk
      obtain ⟨hkk, hkd⟩ := badK_ok hbad
      have hi2 : (k : Int) < (n : Int) := by omega
      have HM : Hid (PM wr B (B + 1) st X K0 R R (psS s) ∧ Okd k d P s ∧ Keeps (fun i => B ≤ i) w wr) := ⟨hM, hok, hkp⟩
      have HN : Hid ((s.deed listK st k x.k x.loc).run listK st ((l.drop (k + 1)).map dp) (k + 1) = endHS listK st (l.map dp) pk ∧ chkL (l.drop (k + 1)) (k + 1) (nxtK x.k d) = none ∧ (P ++ if x.k = 4 then [x.loc] else []) ++ putsL ((l.drop (k + 1)).map dp) = putsL (l.map dp) ∧ (x.k = 0 ∨ x.k = 1 ∨ x.k = 2 ∨ x.k = 3 ∨ x.k = 4) ∧ ¬ (x.k = 1 ∧ d = 0)) := by
        refine ⟨by rw [← run_step hx]; exact hrun, hchk2, ?_, hkk, hkd⟩
        rw [← hput]
        obtain ⟨h1, h2⟩ := List.getElem?_eq_some_iff.1 hx
        conv => rhs; rw [List.drop_eq_getElem_cons h1, h2]
        rw [List.map_cons, putsL_cons, List.append_assoc]
        rfl
      clear hM hok hrun hchk hput hkp hlen hbad hchk2 hkk hkd hx hBw
      obtain ⟨xk, xl⟩ := x
      go_wp2_with fail
      have hkA := Keeps.alloc None wr (.cells #[.int .i64 xk, .int .i64 xl] 44)
      refine (do_any B (B + 1) k d st X K0 R s P _ xk xl (HM.out.1.more hkA) HM.out.2.1 (by omega) hst HN.out.2.2.2.1 HN.out.2.2.2.2 HU.out.1 (fun y hy => HU.out.2 y (by rw [← HN.out.2.2.1]; exact List.mem_append_left _ (List.mem_append_left _ hy)))).mono ?_
      rintro e w5 ⟨rfl, ⟨X5, R5, hM5⟩, hk5⟩
      have HE : Hid (PM w5 B (B + 1) st X5 K0 R5 R5 (psS (s.deed listK st k xk xl)) ∧ Okd (k + 1) (nxtK xk d) (P ++ if xk = 4 then [xl] else []) (s.deed listK st k xk xl) ∧ Keeps (fun i => B ≤ i) w w5) := ⟨hM5, HM.out.2.1.deed st xk xl HN.out.2.2.2.1 HN.out.2.2.2.2, (HM.out.2.2.andAlloc _).trans hk5 (fun i e _ => e)⟩
      clear hM5 hk5 hkA
      go_wp2_with fail
      exact ⟨⟨k + 1, nxtK xk d, _, _, X5, R5, by omega, by go_num, HE.out.1, HE.out.2.1, HN.out.1, HN.out.2.1, HN.out.2.2.1, HE.out.2.2⟩, by simp [intOf]; omega⟩
    · have hkn2 : k = n := by omega
      subst hkn2
      have hi2 : ¬ (k : Int) < (k : Int) := by omega
      rw [List.drop_eq_nil_of_le (by omega)] at hrun hput
      have hs : s = endHS listK st (l.map dp) pk := hrun
      have hPP : P = putsL (l.map dp) := by rw [← hput]; simp [putsL]
      have HFP : Hid (Fits P) := by have h := HU.out.2; rw [← hPP] at h; exact h
      have HM : Hid (PM wr B (B + 1) st X K0 R R (psS s) ∧ Okd k d P s ∧ Keeps (fun i => B ≤ i) w wr ∧ s = endHS listK st (l.map dp) pk ∧ k = l.length ∧ P.length ≤ 4096) := ⟨hM, hok, hkp, hs, hlen, by have := hok.np; omega⟩
      obtain ⟨tb, hta, -, -, -, -, -, -⟩ := hM.cur (tk := s.ini.reverse) (x := (s.sp, s.m.row)) rfl
      have q7 : wr.cell? ⟨B + 1, 7, none⟩ = some (.slice X.ta (s.ini.reverse ++ [(s.sp, s.m.row)]).length X.tc) := hM.c0.2.2.2.2.2.2.2.1
      have hT : (s.ini.reverse ++ [(s.sp, s.m.row)]).length = s.ini.length + 1 := by simp
      rw [hT] at q7
      obtain ⟨T, hTT⟩ : ∃ T, T = s.ini.length + 1 := ⟨_, rfl⟩
      rw [← hTT] at q7
      have HTT : Hid (T = s.ini.length + 1 ∧ T ≤ 5000) := ⟨hTT, by have := hok.ni; have := hok.nd; omega⟩
      clear hM hok hrun hchk hput hkp hlen hs hPP hta hT hTT
      go_wp2_with fail
      clear q7
      go_loopw [42] (fun i wq => ∃ (j : Nat) (X : PX) (R : Nat → Value) (tk : List (Nat × List Nat)) (m : MS (List Int)), i = .int .i64 j ∧ j + tk.length = T ∧ PM wq B (B + 1) st X K0 R R ⟨m.vs, tk, m.pk, s.spn, m.mg, s.lk⟩ ∧ Keeps (fun i => B ≤ i) w wq ∧ ((∃ sp ini, tk = ini.reverse ++ [(sp, m.row)] ∧ Left k P ini m ∧ MS.ends listK k ini m = endMS listK st (l.map dp) pk) ∨ (tk = [] ∧ m = endMS listK st (l.map dp) pk))) (fun i _ => T - (intOf i).toNat)
      case atStart =>
        refine ⟨0, X, R, s.ini.reverse ++ [(s.sp, s.m.row)], s.m, rfl, by simp [HTT.out.1], HM.out.1, HM.out.2.2.1, .inl ⟨s.sp, s.ini, rfl, ⟨HM.out.2.1.inv.lk, HM.out.2.1.inv.line, HM.out.2.1.ct.ct, by have := HM.out.2.1.nv; omega⟩, ?_⟩⟩
        unfold endMS
        rw [← HM.out.2.2.2.1, List.length_map, ← HM.out.2.2.2.2.1]
      case round =>
        obtain ⟨j, X6, R6, tk, m, rfl, hjT, hM6, hk6, hcase⟩ := hrel
        have HEnd : Hid ((endHS listK st (l.map dp) pk).spn = s.spn ∧ (endHS listK st (l.map dp) pk).lk = s.lk) := by
          have h := HM.out.2.2.2.1
          exact ⟨by rw [← h], by rw [← h]⟩
        rcases hcase with ⟨sp, ini, rfl, hL, hends⟩ | ⟨rfl, rfl⟩
        · have hj : j < T := by rw [← hjT]; simp
          have hi5 : (j : Int) < (T : Int) := by omega
          obtain ⟨r1, r2⟩ := hL.rows
          have H6 : Hid (PM wr B (B + 1) st X6 K0 R6 R6 (psOf (psS s) ini.reverse sp m) ∧ Keeps (fun i => B ≤ i) w wr ∧ Left k P ini m ∧ MS.ends listK k ini m = endMS listK st (l.map dp) pk ∧ j + (ini.length + 1) = T) := ⟨hM6, hk6, hL, hends, by rw [← hjT]; simp⟩
          have hin : ini.length ≤ 5000 := by have := H6.out.2.2.2.2; have := HTT.out.2; omega
          clear hM6 hk6 hL hends hjT
          go_wp2_with fail
          refine (merge_ok B (B + 1) k st X6 K0 R6 (psS s) wr ini.reverse sp m (preL ini) P H6.out.1 H6.out.1.sizeLe H6.out.2.2.1.line (by have := HM.out.2.2.2.2.2; omega) r2 (by omega) (by simp; omega) (by omega) HU.out.1 HFP.out).mono ?_
          rintro e w6 ⟨rfl, ⟨X7, R7, hM7⟩, hk7⟩
          have H7 : Hid (PM w6 B (B + 1) st X7 K0 R7 R7 (psOf (psS s) ini.reverse sp (m.all listK k)) ∧ Keeps (fun i => B ≤ i) w w6) := ⟨hM7, H6.out.2.1.trans hk7 (fun i e _ => e)⟩
          clear hM7 hk7
          go_wp2_with fail
          refine (end_ok B (B + 1) st X7 K0 R7 R7 _ w6 ini.reverse (sp, (m.all listK k).row) H7.out.1 rfl (by simp; omega)).mono ?_
          rintro e w7 ⟨rfl, hM8, hk8⟩
          have HE : Hid (∃ (X : PX) (R : Nat → Value) (tk : List (Nat × List Nat)) (m : MS (List Int)), j + 1 + tk.length = T ∧ PM w7 B (B + 1) st X K0 R R ⟨m.vs, tk, m.pk, s.spn, m.mg, s.lk⟩ ∧ Keeps (fun i => B ≤ i) w w7 ∧ ((∃ sp ini, tk = ini.reverse ++ [(sp, m.row)] ∧ Left k P ini m ∧ MS.ends listK k ini m = endMS listK st (l.map dp) pk) ∨ (tk = [] ∧ m = endMS listK st (l.map dp) pk))) := by
            have hkk : Keeps (fun i => B ≤ i) w w7 := H7.out.2.trans hk8 (fun i e _ => by omega)
            have hj5 := H6.out.2.2.2.2
            cases ini with
            | nil => exact ⟨X7, R7, [], m.all listK k, by simp at hj5 ⊢; omega, hM8, hkk, .inr ⟨rfl, H6.out.2.2.2.1⟩⟩
            | cons t ini =>
              refine ⟨X7, R7, ini.reverse ++ [(t.1, t.2)], { m.all listK k with row := t.2 }, by simp at hj5 ⊢; omega, ?_, hkk, .inl ⟨t.1, ini, rfl, H6.out.2.2.1.next, H6.out.2.2.2.1⟩⟩
              have e5 : (t :: ini).reverse = ini.reverse ++ [(t.1, t.2)] := by rw [List.reverse_cons]
              rw [e5] at hM8
              exact hM8
          clear hM8 hk8
          have hT5 := HTT.out.2
          go_wp2_with fail
          obtain ⟨X9, R9, tk9, m9, h9⟩ := HE.out
          exact ⟨⟨j + 1, X9, R9, tk9, m9, by go_num, h9⟩, by simp [intOf]; omega⟩
        · have hj : j = T := by rw [← hjT]; simp
          subst hj
          have hi5 : ¬ (j : Int) < (j : Int) := by omega
          have HE : Hid (PM wr B (B + 1) st X6 K0 R6 R6 ⟨(endMS listK st (l.map dp) pk).vs, [], (endMS listK st (l.map dp) pk).pk, (endHS listK st (l.map dp) pk).spn, (endMS listK st (l.map dp) pk).mg, (endHS listK st (l.map dp) pk).lk⟩ ∧ Keeps None w wr) := by
            refine ⟨by rw [HEnd.out.1, HEnd.out.2]; exact hM6, hk6.mono (fun i e hi => by have h1 := HB.out; have h2 : B ≤ i := e; omega)⟩
          clear hM6 hk6 hjT
          go_wp2_with fail
          go_ret
          rw [← HB.out]
          exact ⟨B + 1, rfl, ⟨X6, R6, HE.out.1⟩, HE.out.2⟩
end Go.Proofs.Ytdiabpoafennlab.Nm
/-! hyper.Fold. -/
namespace Go.Proofs.Ytdiabpoafennlab.Nm
set_option linter.unusedVariables false
set_option maxRecDepth 20000
set_option linter.unusedSimpArgs false
open Go.RowKit Go.HeapKit Go.PlainOps

theorem load_kind (w : World) (g : Nat) (t : TypeId) (v0 v1 v2 v3 : Value) (hb : w.heap[g]? = some (.cells #[v0, v1, v2, v3] t (0, 0))) : (loadVar 74 ⟨g, 0, none⟩).run Try.prog w = .ok (.agg #[v0, v1, v2, v3]) w :=
  run_loadVar_row _ g t 74 _ _ _ hb Try.underlying74 rfl (by kernel_rfl)
def kindV (K0 : NP) : Value := .agg #[.func (.func 51) #[] #[.pointer (some ⟨K0.pu, 0, none⟩)], .func (.func 49) #[] #[.pointer (some ⟨K0.pa, 0, none⟩)], .func (.func 49) #[] #[.pointer (some ⟨K0.pa, 0, none⟩)], .func (.func 52) #[] #[]]
theorem numbers_ok (op u : Int) (w : World) : Calls Try.prog 25 #[.int .i64 op, .int .i64 u] w fun e w' => ∃ K0 : NP, K0.op = op ∧ e = .returned (kindV K0) ∧ w'.cell? ⟨K0.pa, 0, none⟩ = some (.int .i64 op) ∧ w'.cell? ⟨K0.pu, 0, none⟩ = some (.int .i64 u) ∧ Keeps None w w' := by
  go_enter Try.func25, Try.ntmps25
  go_wp2_with fail
  refine bodyPost_ret (results_one (q := 4) (ty := 74) rfl rfl (load_kind _ _ 74 _ _ _ _ (blk_new _ _ _ (by simp)))) rfl ?_
  have hb1 := blk_new w (.cells #[.int .i64 op] 3) w.heap.size rfl
  have hb2 := blk_new (w.alloc (.cells #[.int .i64 op] 3)) (.cells #[.int .i64 u] 2) (w.heap.size + 1) (by simp)
  have k1 := Keeps.alloc None w (.cells #[.int .i64 op] 3)
  have k2 := fun o => Keeps.alloc None (w.alloc (.cells #[.int .i64 op] 3)) o
  have k3 := fun o => Keeps.alloc None ((w.alloc (.cells #[.int .i64 op] 3)).alloc (.cells #[.int .i64 u] 2)) o
  exact ⟨⟨op, w.heap.size, w.heap.size + 1⟩, rfl, rfl, (k3 _).cell ((k2 _).cell (blk_cell hb1 0) (fun f => f)) (fun f => f), (k3 _).cell (blk_cell hb2 0) (fun f => f), (k1.trans (k2 _) (fun _ f _ => f)).trans (k3 _) (fun _ f _ => f)⟩
theorem play_raw (K0 : NP) (a : Option Addr) (n c : Nat) (l : List Dd) (sa : Option Addr) (m sc : Nat) (st : List Bool) (pa : Option Addr) (k pc : Nat) (pk : List Int) (w : World) (hS : Seen w a n l) (hT : SeenV w sa m (bv' st)) (hP : SeenV w pa k (iv pk)) (hpc : k ≤ pc) (hE : refE l st pk = 0) (hu : hasU K0.op = true) (hf : Fits (putsD l)) (hb1 : w.cell? ⟨K0.pa, 0, none⟩ = some (.int .i64 K0.op)) (hb2 : w.cell? ⟨K0.pu, 0, none⟩ = some (.int .i64 (unitV K0.op))) :
    Calls Try.prog 24 #[kindV K0, .slice a n c, .slice sa m sc, .slice pa k pc] w fun e w' =>
      ∃ pb vb vc, e = .returned (.pointer (some ⟨pb, 0, none⟩)) ∧ w'.cell? ⟨pb, 6, none⟩ = some (.slice (some ⟨vb, 0, none⟩) (finPS l st pk).vs.length vc) ∧ w'.cell? ⟨vb, 0, none⟩ = some (.int .i64 (foldV K0.op (putsD l))) ∧ Keeps None w w' := by
  obtain ⟨h1, h2, -, hc⟩ := refE_ok hE
  have hm := hT.len
  have hk := hP.len
  rw [bv_len] at hm
  rw [iv_len] at hk
  subst hm hk
  refine (play_ok K0 a n c l sa sc st pa pc pk w hS hT hP hpc (by have := hS.len; omega) h2 hc hu (by rw [putsD_eq]; exact hf) hb1 hb2).mono ?_
  rintro e w' ⟨pb, X, R, he, hM, hkp⟩
  have hpos : 0 < (finPS l st pk).vs.length := fin_pos l st pk (kinds_of hc)
  have hM2 : PM w' w.heap.size pb st X K0 R R (finPS l st pk) := hM
  obtain ⟨vb, hva, -, hcell, -, -⟩ := hM2.viewAt hpos
  have q6 := hM2.c0.2.2.2.2.2.2.1
  rw [hva] at q6
  rw [fin_puts] at hcell
  exact ⟨pb, vb, _, he, q6, hcell, hkp⟩
def nmE (op : Int) (l : List Dd) (st : List Bool) (pk : List Int) : Int := if foldErr op ((0 : Nat) : Int) = 0 then refE l st pk else foldErr op ((0 : Nat) : Int)
def nmV (op : Int) (l : List Dd) (st : List Bool) (pk : List Int) : Int := if nmE op l st pk = 0 then foldV op (putsD l) else 0
theorem seg_nil (w : World) : Seg w none 0 [] := ⟨Nat.le_refl _, by unfold maxLen; omega, .inl rfl⟩
set_option maxHeartbeats 1600000 in
theorem Fold_ok (op : Int) (a : Option Addr) (n c : Nat) (l : List Dd) (sa : Option Addr) (m sc : Nat) (st : List Bool) (pa : Option Addr) (k pc : Nat) (pk : List Int) (w : World) (hS : Seen w a n l) (hT : SeenV w sa m (bv' st)) (hP : SeenV w pa k (iv pk)) (hpc : k ≤ pc) (hf : Fits (putsD l)) :
    Calls Try.prog 11 #[.int .i64 op, .slice a n c, .slice sa m sc, .slice pa k pc] w fun e w' => e = .returned (.tuple #[.int .i64 (nmV op l st pk), .int .i64 (nmE op l st pk)]) ∧ Keeps None w w' := by
  have HS : Hid (Seen w a n l ∧ SeenV w sa m (bv' st) ∧ SeenV w pa k (iv pk) ∧ k ≤ pc ∧ Fits (putsD l)) := ⟨hS, hT, hP, hpc, hf⟩
  have HL : Hid (m = st.length ∧ k = pk.length) := ⟨by have := hT.len; rwa [bv_len] at this, by have := hP.len; rwa [iv_len] at this⟩
  clear hS hT hP hpc hf
  obtain ⟨E0, hE0⟩ : ∃ E, E = foldErr op ((0 : Nat) : Int) := ⟨_, rfl⟩
  by_cases h0 : foldErr op ((0 : Nat) : Int) = 0
  · have hu := (foldErr_ok h0).1
    obtain ⟨E, hE⟩ : ∃ E, E = refE l st pk := ⟨_, rfl⟩
    obtain ⟨V0, hV0⟩ : ∃ V, V = nmV op l st pk := ⟨_, rfl⟩
    have e1 : nmE op l st pk = E := by unfold nmE; rw [if_pos h0, hE]
    have HF : Hid (foldErr op ((0 : Nat) : Int) = 0 ∧ hasU op = true ∧ E = refE l st pk ∧ V0 = if E = 0 then foldV op (putsD l) else 0) := ⟨h0, hu, hE, by rw [hV0]; unfold nmV; rw [e1]⟩
    rw [e1, ← hV0]
    clear h0 hu hE e1 hE0 hV0
    go_enter Try.func11, Try.ntmps11
    go_wp2_with fail
    refine (fold_ok op none 0 0 [] w HF.out.1 rfl (seg_nil w)).mono ?_
    rintro e w1 ⟨rfl, rfl⟩
    have hun : foldV op [] = unitV op := rfl
    rw [hun]
    clear hun
    go_wp2_with fail
    refine (refused_ok a n c l sa m sc st pa k pc pk w1 HS.out.1 HL.out.1 HL.out.2).mono ?_
    rintro e w2 ⟨rfl, hk2⟩
    rw [← HF.out.2.2.1]
    have HK2 : Hid (Keeps None w1 w2) := hk2
    clear hk2
    by_cases hE : E = 0
    · have HV : Hid (V0 = foldV op (putsD l)) := by have h := HF.out.2.2.2; rw [if_pos hE] at h; exact h
      have HE0 : Hid (refE l st pk = 0) := by rw [← HF.out.2.2.1]; exact hE
      subst hE
      go_wp2_with fail
      refine (numbers_ok op (unitV op) w2).mono ?_
      rintro e w3 ⟨K0, hop, rfl, hb1, hb2, hk3⟩
      have HK3 : Hid (Keeps None w1 w3) := HK2.out.trans hk3 (fun _ f _ => f)
      have HB : Hid (hasU K0.op = true ∧ w3.cell? ⟨K0.pa, 0, none⟩ = some (.int .i64 K0.op) ∧ w3.cell? ⟨K0.pu, 0, none⟩ = some (.int .i64 (unitV K0.op)) ∧ K0.op = op) := ⟨by rw [hop]; exact HF.out.2.1, by rw [hop]; exact hb1, by rw [hop]; exact hb2, hop⟩
      clear hop hb1 hb2 hk3
      obtain ⟨KV, hKV⟩ : ∃ V, V = kindV K0 := ⟨_, rfl⟩
      rw [← hKV]
      have HKV : Hid (KV = kindV K0) := hKV
      clear hKV
      go_wp2_with fail
      rw [HKV.out]
      refine (play_raw K0 a n c l sa m sc st pa k pc pk w3 (HS.out.1.more HK3.out) (HS.out.2.1.more HK3.out) (HS.out.2.2.1.more HK3.out) HS.out.2.2.2.1 HE0.out HB.out.1 HS.out.2.2.2.2 HB.out.2.1 HB.out.2.2.1).mono ?_
      rintro e w4 ⟨pb, vb, vc, rfl, q6, q0, hk4⟩
      rw [HB.out.2.2.2] at q0
      have hpos : 0 < (finPS l st pk).vs.length := fin_pos l st pk (kinds_of (refE_ok HE0.out).2.2.2)
      obtain ⟨VL, hVL⟩ : ∃ VL, VL = (finPS l st pk).vs.length := ⟨_, rfl⟩
      rw [← hVL] at q6 hpos
      rw [← HV.out] at q0
      have i1 : (0 : Int) < (VL : Int) := by omega
      have HK4 : Hid (Keeps None w1 w4) := HK3.out.trans hk4 (fun _ f _ => f)
      clear hVL hk4
      go_wp2
      go_ret2
      exact ⟨rfl, HK4.out⟩
    · have HV : Hid (V0 = 0) := by have h := HF.out.2.2.2; rw [if_neg hE] at h; exact h
      have hE2 : (E != 0) = true := by simp [hE]
      go_wp2
      go_ret2
      exact ⟨by rw [HV.out]; rfl, HK2.out⟩
  · have e1 : nmE op l st pk = E0 := by unfold nmE; rw [if_neg h0, hE0]
    have hE : E0 ≠ 0 := by rw [hE0]; exact h0
    have e2 : nmV op l st pk = 0 := by unfold nmV; rw [e1, if_neg hE]
    have HF : Hid (foldErr op ((0 : Nat) : Int) ≠ 0 ∧ E0 = foldErr op ((0 : Nat) : Int)) := ⟨h0, hE0⟩
    rw [e1, e2]
    have hE2 : (E0 != 0) = true := by simp [hE]
    clear h0 hE0 e1 e2
    go_enter Try.func11, Try.ntmps11
    go_wp2_with fail
    refine (fold_err op none 0 0 w HF.out.1).mono ?_
    rintro e w1 ⟨rfl, rfl⟩
    rw [← HF.out.2]
    go_wp2
    go_ret2
    exact ⟨rfl, Keeps.refl _ _⟩
end Go.Proofs.Ytdiabpoafennlab.Nm
/-! The first answer's lists on their way: what is written, what stands. -/
namespace Go.Proofs.Ytdiabpoafennlab.Rn
set_option linter.unusedVariables false
set_option maxRecDepth 20000
set_option linter.unusedSimpArgs false
open Go.RowKit Go.HeapKit Go.PlainOps

structure VR (w0 w : World) (TL : Nat → Prop) (B S : Nat) (fa : Option Addr) (fc : Nat) (la : Option Addr) (lc : Nat) (Q : Nat → Value) (Z0 Z : Nat → List Int) (nL : Nat) : Prop where
  vm : VM w B S fa fc la lc Q Z nL
  len : ∀ j, (Z j).length = (Z0 j).length
  kp : Keeps TL w0 w
def D0 (Z : Nat → List Int) : Prop := ∀ q, q < (Z 0).length → (Z 0)[q]? = some (-1)
def DL (Z : Nat → List Int) (n : Nat) : Prop := ∀ j, j < n → ∀ q, q < (Z (j + 1)).length → (Z (j + 1))[q]? = some (j : Int)
section
variable {w0 w w' : World} {TL : Nat → Prop} {B S nL fc lc : Nat} {fa la : Option Addr} {Q : Nat → Value} {Z0 Z : Nat → List Int}
theorem VR.more (h : VR w0 w TL B S fa fc la lc Q Z0 Z nL) (hk : Keeps None w w') : VR w0 w' TL B S fa fc la lc Q Z0 Z nL := ⟨h.vm.more hk, h.len, h.kp.trans hk (fun _ f _ => f.elim)⟩
theorem VR.set (h : VR w0 w TL B S fa fc la lc Q Z0 Z nL) (hTL : ∀ b, VS B S b → TL b) {i p : Nat} (hi : i < nL + 1) (hp : p < (Z0 i).length) (x : Int) : ∃ g c, Q i = .slice (some ⟨g, 0, none⟩) (Z0 i).length c ∧ (∃ v, w.cell? ⟨g, p, none⟩ = some v) ∧ w.frozen? ⟨g, p, none⟩ = false ∧ VR w0 (w.setCell ⟨g, p, none⟩ (.int .i64 x)) TL B S fa fc la lc Q Z0 (upd Z i ((Z i).set p x)) nL := by
  have hl := h.len i
  obtain ⟨g, c, hQ, hv, hf, hvm, hk⟩ := h.vm.set hi (p := p) (by omega) x
  refine ⟨g, c, by rw [hQ, hl], hv, hf, hvm, fun j => ?_, h.kp.trans hk (fun b e _ => hTL b e)⟩
  by_cases e : j = i
  · subst e; rw [upd_eq, List.length_set]; exact h.len j
  · rw [upd_ne e]; exact h.len j
theorem set_at {Z : Nat → List Int} {i p : Nat} {x : Int} (hp : p < (Z i).length) : (upd Z i ((Z i).set p x) i)[p]? = some x := by rw [upd_eq]; simp [hp]
theorem set_old {Z : Nat → List Int} {i p : Nat} {x : Int} {j q : Nat} (h : ¬ (j = i ∧ q = p)) : (upd Z i ((Z i).set p x) j)[q]? = (Z j)[q]? := by
  by_cases e : j = i
  · subst e
    rw [upd_eq, List.getElem?_set_ne (fun e2 => h ⟨rfl, e2.symm⟩)]
  · rw [upd_ne e]
theorem VR.first (h : VR w0 w TL B S fa fc la lc Q Z0 Z nL) {g c : Nat} (hQ : Q 0 = .slice (some ⟨g, 0, none⟩) (Z0 0).length c) : fa = some ⟨g, 0, none⟩ ∧ fc = c := by
  have h1 := h.vm.fin
  rw [hQ] at h1
  injection h1 with e1 e2 e3
  exact ⟨e1.symm, e3.symm⟩
theorem VR.look (h : VR w0 w TL B S fa fc la lc Q Z0 Z nL) {k : Nat} (hk : k < nL) : ∃ g3, la = some ⟨g3, 0, none⟩ ∧ w.cell? ⟨g3, k, none⟩ = some (Q (k + 1)) ∧ ∃ a c, Q (k + 1) = .slice a (Z0 (k + 1)).length c := by
  obtain ⟨g, e, _, _, _, hc, _⟩ := own_cellS h.vm.lks (k := k) (range_get _ hk)
  obtain ⟨a, c, hQ⟩ := row_shape (h.vm.rows (k + 1) (by omega))
  exact ⟨g, e, hc, a, c, by rw [hQ, h.len]⟩
/-- A number of a row is read. -/
theorem VR.at (h : VR w0 w TL B S fa fc la lc Q Z0 Z nL) {i p : Nat} (hi : i < nL + 1) {x : Int} (hx : (Z i)[p]? = some x) : ∃ g c, Q i = .slice (some ⟨g, 0, none⟩) (Z0 i).length c ∧ w.cell? ⟨g, p, none⟩ = some (.int .i64 x) := by
  have hr := h.vm.rows i hi
  obtain ⟨a, c, hQ⟩ := row_shape hr
  rw [hQ] at hr
  obtain ⟨g, rfl, _, _, _, hc, _⟩ := own_cell1 hr (k := p) (x := .int .i64 x) (by simp [iv, hx])
  exact ⟨g, c, by rw [hQ, h.len], hc⟩
theorem VR.gr (h : VR w0 w TL B S fa fc la lc Q Z0 Z nL) {i : Nat} (hi : i < nL + 1) (S8 : Nat) : Gr w B S8 Q Z i (Q i) (Z0 i).length := by
  have := h.vm.gr hi S8
  rwa [h.len] at this
theorem Gr.shape {S8 i n : Nat} {r : Value} (h : Gr w B S8 Q Z i r n) : ∃ a c, r = .slice a n c := by
  obtain ⟨y, h1, -⟩ := h.own
  exact row_shape h1
theorem VR.app (h : VR w0 w TL B S fa fc la lc Q Z0 Z nL) {S8 : Nat} (hTL : ∀ b, VS B S b ∨ S8 ≤ b → TL b) {i n : Nat} {r : Value} (hg : Gr w B S8 Q Z i r n) (hi : i < nL + 1) (hS : S ≤ S8) (h8 : S8 ≤ w0.heap.size) (hB : B ≤ S) (hn : n ≤ 100000) (x : Int) :
    ∃ g c w', (Builtin.append_ #[28, 28] 28 #[r, .slice (some ⟨w.heap.size, 0, none⟩) 1 1]).run Try.prog (w.alloc (.cells #[.int .i64 x] 2)) = .ok (.slice (some ⟨g, 0, none⟩) (n + 1) c) w' ∧ VR w0 w' TL B S fa fc la lc Q Z0 Z nL ∧ Gr w' B S8 Q Z i (.slice (some ⟨g, 0, none⟩) (n + 1) c) (n + 1) := by
  have kA := Keeps.alloc None w (.cells #[.int .i64 x] 2)
  obtain ⟨g, c, w', hr, hv, hg2, hk⟩ := Gr.step (h.vm.more kA) (hg.more kA) hi hS (Nat.le_trans h8 (Nat.le_trans h.kp.size kA.size)) hB hn x (blk_new w (.cells #[.int .i64 x] 2) _ rfl)
  exact ⟨g, c, w', hr, ⟨hv, h.len, (h.kp.trans kA (fun _ f _ => f.elim)).trans hk (fun b e _ => hTL b e)⟩, hg2⟩
end
end Go.Proofs.Ytdiabpoafennlab.Rn
