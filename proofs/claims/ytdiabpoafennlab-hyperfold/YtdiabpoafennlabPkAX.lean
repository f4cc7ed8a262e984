import Derived.Test.YtdiabpoafennlabPkAW
import Derived.Test.YtdiabpoafennlabPkAH
import Derived.Deep.Cut
import Derived.Test.YtdiabpoafennlabPkAJ
import Derived.Laws.EntriesVeiled
import Derived.Test.YtdiabpoafennlabProg
import Derived.WalkKit
import Derived.WalkSpells
import Derived.WalkLawsBesides
import Derived.Test.YtdiabpoafennlabPkAD
import Derived.Test.YtdiabpoafennlabPkAR
import Derived.Test.YtdiabpoafennlabPkAL
import Derived.ProofKit
import Derived.OpenShut
import Derived.Deep.Slices
import Derived.Test.YtdiabpoafennlabPkAA
import Derived.SizedLaws
/-! A play of numbers, in memory. -/
namespace Go.Proofs.Ytdiabpoafennlab.Nm
set_option linter.unusedVariables false
set_option maxRecDepth 20000
set_option linter.unusedSimpArgs false
open Go.RowKit Go.HeapKit Go.PlainOps

theorem PM.start {w : World} {K0 : NP} {base pb : Nat} {st : List Bool} {pk : List Int} {sa pa : Option Addr} {sc pc : Nat} (hb : w.heap[pb]? = some (.cells #[.func (.func 51) #[] #[.pointer (some ⟨K0.pu, 0, none⟩)], .func (.func 49) #[] #[.pointer (some ⟨K0.pa, 0, none⟩)], .func (.func 49) #[] #[.pointer (some ⟨K0.pa, 0, none⟩)], .func (.func 52) #[] #[],
    .slice sa st.length sc, .slice pa pk.length pc, .slice none 0 0, .slice none 0 0, .int .i64 0, .slice none 0 0, .slice none 0 0] 76 (0, 0))) (hl : base ≤ pb) (hA : Ar w base sa pa pc st pk K0) :
    PM w base pb st ⟨sa, sc, pa, pc, none, 0, none, 0, none, 0, none, 0⟩ K0 (fun _ => .slice none 0 0) (fun _ => .slice none 0 0) ⟨[], [], pk, 0, [], []⟩ := by
  exact ⟨hb, hl, ⟨row_nil _ _ _ _, row_nil _ _ _ _, fun b n c m d e => by simp [Value.ownBlock] at e⟩, ⟨row_nil _ _ _ _, fun i hi => by simp at hi, fun i j b hi => by simp at hi⟩, hA, row_nil _ _ _ _⟩
/-- The root begins. -/
theorem PM.firstTask {w w1 : World} {base pb : Nat} {st : List Bool} {X : PX} {K : NP} {H R : Nat → Value} {s : PS} (h : PM w base pb st X K H R s) (hs : s.tk = []) {x : Nat × List Nat} {V : Value} {g : Nat} (hk : Keeps None w w1) (hV : w1.ownsRow base 3 1 V x.2.length (nv x.2)) (hT : w1.ownsRow base 89 2 (.slice (some ⟨g, 0, none⟩) 1 1) 1 [.int .i64 x.1, V]) :
    PM (w1.setCell ⟨pb, 7, none⟩ (.slice (some ⟨g, 0, none⟩) 1 1)) base pb st { X with ta := some ⟨g, 0, none⟩, tc := 1 } K (fun _ => V) (fun _ => V) { s with tk := [x] } := by
  have h1 := h.more hk
  refine PM.put (c := cells X st K s) h1.blk h.low (by simp [cells]) h1.vw ⟨?_, ?_, ?_⟩ h1.ar h1.mg
  · show w1.ownsRow base 89 2 (.slice (some ⟨g, 0, none⟩) 1 1) 1 ((List.range (1 * 2)).map (tkF [x] (fun _ => V)))
    have e : (List.range (1 * 2)).map (tkF [x] (fun _ => V)) = [.int .i64 x.1, V] := by simp [List.range_succ, tkF]
    rw [e]
    exact hT
  · intro i hi
    have hi0 : i = 0 := by have : i < [x].length := hi; simpa using this
    subst hi0
    exact hV
  · intro i j b hi hj hij
    have h1 : i < [x].length := hi
    have h2 : j < [x].length := hj
    simp at h1 h2
    omega
set_option maxHeartbeats 6400000 in
theorem play_ok (K0 : NP) (a : Option Addr) (n c : Nat) (l : List Dd) (sa : Option Addr) (sc : Nat) (st : List Bool) (pa : Option Addr) (pc : Nat) (pk : List Int) (w : World) (hS : Seen w a n l) (hT : SeenV w sa st.length (bv' st)) (hP : SeenV w pa pk.length (iv pk)) (hpc : pk.length ≤ pc) (hn : n ≤ 4096) (hst : st.length ≤ 4096) (hc : chkL l 0 0 = none) (hu : hasU K0.op = true) (hf : Fits (putsL (l.map dp))) (hb1 : w.cell? ⟨K0.pa, 0, none⟩ = some (.int .i64 K0.op)) (hb2 : w.cell? ⟨K0.pu, 0, none⟩ = some (.int .i64 (unitV K0.op))) :
    Calls Try.prog 24 #[.agg #[.func (.func 51) #[] #[.pointer (some ⟨K0.pu, 0, none⟩)], .func (.func 49) #[] #[.pointer (some ⟨K0.pa, 0, none⟩)], .func (.func 49) #[] #[.pointer (some ⟨K0.pa, 0, none⟩)], .func (.func 52) #[] #[]], .slice a n c, .slice sa st.length sc, .slice pa pk.length pc] w fun e w' =>
      ∃ pb X R, e = .returned (.pointer (some ⟨pb, 0, none⟩)) ∧ PM w' w.heap.size pb st X K0 R R ⟨(endMS listK st (l.map dp) pk).vs, [], (endMS listK st (l.map dp) pk).pk, (endHS listK st (l.map dp) pk).spn, (endMS listK st (l.map dp) pk).mg, (endHS listK st (l.map dp) pk).lk⟩ ∧ Keeps None w w' := by
  have HSS : Hid (Seen w a n l ∧ SeenV w sa st.length (bv' st) ∧ SeenV w pa pk.length (iv pk) ∧ pk.length ≤ pc ∧ n = l.length ∧ chkL l 0 0 = none) := ⟨hS, hT, hP, hpc, hS.len, hc⟩
  have HU : Hid (hasU K0.op = true ∧ Fits (putsL (l.map dp))) := ⟨hu, hf⟩
  have HBX : Hid (w.cell? ⟨K0.pa, 0, none⟩ = some (.int .i64 K0.op) ∧ w.cell? ⟨K0.pu, 0, none⟩ = some (.int .i64 (unitV K0.op)) ∧ K0.pa < w.heap.size ∧ K0.pu < w.heap.size) := ⟨hb1, hb2, cell_lt hb1, cell_lt hb2⟩
  clear hS hT hP hpc hc hu hf hb1 hb2
  go_enter Try.func24, Try.ntmps24
  go_upto_region 2 with fail
  obtain ⟨B, hB⟩ : ∃ B, B = w.heap.size := ⟨_, rfl⟩
  have hk0 := (Keeps.alloc None w (.cells #[.func (.func 51) #[] #[.pointer (some ⟨K0.pu, 0, none⟩)], .func (.func 49) #[] #[.pointer (some ⟨K0.pa, 0, none⟩)], .func (.func 49) #[] #[.pointer (some ⟨K0.pa, 0, none⟩)], .func (.func 52) #[] #[]] 74)).andAlloc (.cells #[.func (.func 51) #[] #[.pointer (some ⟨K0.pu, 0, none⟩)], .func (.func 49) #[] #[.pointer (some ⟨K0.pa, 0, none⟩)], .func (.func 49) #[] #[.pointer (some ⟨K0.pa, 0, none⟩)], .func (.func 52) #[] #[], .slice sa st.length sc, .slice pa pk.length pc, .slice none 0 0, .slice none 0 0, .int .i64 0, .slice none 0 0, .slice none 0 0] 76)
  have hb0 := blk_new (w.alloc (.cells #[.func (.func 51) #[] #[.pointer (some ⟨K0.pu, 0, none⟩)], .func (.func 49) #[] #[.pointer (some ⟨K0.pa, 0, none⟩)], .func (.func 49) #[] #[.pointer (some ⟨K0.pa, 0, none⟩)], .func (.func 52) #[] #[]] 74)) (.cells #[.func (.func 51) #[] #[.pointer (some ⟨K0.pu, 0, none⟩)], .func (.func 49) #[] #[.pointer (some ⟨K0.pa, 0, none⟩)], .func (.func 49) #[] #[.pointer (some ⟨K0.pa, 0, none⟩)], .func (.func 52) #[] #[], .slice sa st.length sc, .slice pa pk.length pc, .slice none 0 0, .slice none 0 0, .int .i64 0, .slice none 0 0, .slice none 0 0] 76) (B + 1) (by simp; omega)
  rw [← hB]
  have HB : Hid (B = w.heap.size) := hB
  generalize (w.alloc (.cells #[.func (.func 51) #[] #[.pointer (some ⟨K0.pu, 0, none⟩)], .func (.func 49) #[] #[.pointer (some ⟨K0.pa, 0, none⟩)], .func (.func 49) #[] #[.pointer (some ⟨K0.pa, 0, none⟩)], .func (.func 52) #[] #[]] 74)).alloc (.cells #[.func (.func 51) #[] #[.pointer (some ⟨K0.pu, 0, none⟩)], .func (.func 49) #[] #[.pointer (some ⟨K0.pa, 0, none⟩)], .func (.func 49) #[] #[.pointer (some ⟨K0.pa, 0, none⟩)], .func (.func 52) #[] #[], .slice sa st.length sc, .slice pa pk.length pc, .slice none 0 0, .slice none 0 0, .int .i64 0, .slice none 0 0, .slice none 0 0] 76) = wb at *
  have HP0 : Hid (PM wb B (B + 1) st ⟨sa, sc, pa, pc, none, 0, none, 0, none, 0, none, 0⟩ K0 (fun _ => .slice none 0 0) (fun _ => .slice none 0 0) ⟨[], [], pk, 0, [], []⟩ ∧ Keeps (fun i => B ≤ i) w wb) := by
    refine ⟨PM.start hb0 (by omega) ⟨⟨HSS.out.2.1.more hk0, HSS.out.2.2.1.more hk0, fun b e h0 => ?_, fun b e h0 => ?_, HSS.out.2.2.2.1⟩, hk0.cell HBX.out.1 (fun f => f), hk0.cell HBX.out.2.1 (fun f => f), by have := HBX.out.2.2.1; omega, by have := HBX.out.2.2.2; omega⟩, hk0.mono (fun _ f _ => f.elim)⟩
    · obtain ⟨b', off, e', hlt, _⟩ := HSS.out.2.1.ex h0
      rw [e'] at e
      simp [blockOf] at e
      omega
    · obtain ⟨b', off, e', hlt, _⟩ := HSS.out.2.2.1.ex h0
      rw [e'] at e
      simp [blockOf] at e
      omega
  clear hb0 hk0 hB
  go_wp2_with fail
  refine (newView_ok B (B + 1) st _ _ _ _ _ wb HP0.out.1 HP0.out.1.sizeLe (by simp)).mono ?_
  rintro e w2 ⟨rfl, ⟨X2, hM2, hta2⟩, hk2⟩
  have hd2 := (Keeps.alloc None w2 (.cells #[.int .i64 (0 : Nat)] 3)).andAlloc (.cells #[.int .i64 (0 : Nat), .slice (some ⟨w2.heap.size, 0, none⟩) 1 1] 89)
  have ho1 := (own_one (w := w2) (base := B) 0 hM2.sizeLe).alloc (.cells #[.int .i64 (0 : Nat), .slice (some ⟨w2.heap.size, 0, none⟩) 1 1] 89)
  have ho2 := own_task (w := w2.alloc (.cells #[.int .i64 (0 : Nat)] 3)) (base := B) 0 (.slice (some ⟨w2.heap.size, 0, none⟩) 1 1) (by have := hM2.sizeLe; simp; omega)
  have hM3 := hM2.firstTask rfl (x := (0, [0])) hd2 ho1 ho2
  have f7 := (hM2.more hd2).free 7
  have z7 := (hM2.more hd2).c0.2.2.2.2.2.2.2.1
  rw [show (w2.alloc (.cells #[.int .i64 (0 : Nat)] 3)).heap.size = w2.heap.size + 1 by simp] at hM3
  simp only [Int.ofNat_zero, List.length_nil] at hM3 f7 z7 ⊢
  have hkw := (HP0.out.2.trans hk2 (fun i e _ => e)).trans hd2 (fun _ f _ => f.elim)
  simp only [Int.ofNat_zero] at hkw
  have HM3 : Hid _ := hM3
  have HKW : Hid _ := hkw
  clear hM3 hkw ho1 ho2 hd2 hk2 hM2 hta2
  go_wp2_with fail
  have HM4 : Hid ((∃ X R, PM (((w2.alloc (.cells #[.int .i64 0] 3)).alloc (.cells #[.int .i64 0, .slice (some ⟨w2.heap.size, 0, none⟩) 1 1] 89)).setCell ⟨B + 1, 7, none⟩ (.slice (some ⟨w2.heap.size + 1, 0, none⟩) 1 1)) B (B + 1) st X K0 R R (psS (HS.start listK pk))) ∧ Keeps (fun i => B ≤ i) w (((w2.alloc (.cells #[.int .i64 0] 3)).alloc (.cells #[.int .i64 0, .slice (some ⟨w2.heap.size, 0, none⟩) 1 1] 89)).setCell ⟨B + 1, 7, none⟩ (.slice (some ⟨w2.heap.size + 1, 0, none⟩) 1 1))) := ⟨⟨_, _, HM3.out⟩, HKW.out.andSet (x := ⟨B + 1, 7, none⟩) (.inl (by show B ≤ B + 1; omega)) _⟩
  generalize ((w2.alloc (.cells #[.int .i64 0] 3)).alloc (.cells #[.int .i64 0, .slice (some ⟨w2.heap.size, 0, none⟩) 1 1] 89)).setCell ⟨B + 1, 7, none⟩ (.slice (some ⟨w2.heap.size + 1, 0, none⟩) 1 1) = w4 at *
  clear f7 z7 HM3 HKW HP0
  go_loopw [10, 11, 27] (fun _ _ i wr => ∃ (k d : Nat) (s : HS (List Int)) (P : List Int) (X : PX) (R : Nat → Value), k ≤ n ∧ i = .int .i64 k ∧ PM wr B (B + 1) st X K0 R R (psS s) ∧ Okd k d P s ∧ s.run listK st ((l.drop k).map dp) k = endHS listK st (l.map dp) pk ∧ chkL (l.drop k) k d = none ∧ P ++ putsL ((l.drop k).map dp) = putsL (l.map dp) ∧ Keeps (fun i => B ≤ i) w wr) (fun _ _ i _ => n - (intOf i).toNat)
  case atStart =>
    obtain ⟨⟨X, R, h1⟩, h2⟩ := HM4.out
    exact ⟨0, 0, HS.start listK pk, [], X, R, Nat.zero_le _, rfl, h1, okd_start pk, rfl, HSS.out.2.2.2.2.2, rfl, h2⟩
  case round =>
    clear HM4
    obtain ⟨k, d, s, P, X, R, hk, rfl, hM, hok, hrun, hchk, hput, hkp⟩ := hrel
    have hlen := HSS.out.2.2.2.2.1
    by_cases hkn : k < n
    · have hBw : w.heap.size ≤ B := by have := HB.out; omega
      obtain ⟨b, off, x, rfl, hb, hx, u0, u1⟩ := (HSS.out.1.below (hkp.mono (fun i e _ => e)) hBw).elem hkn
      obtain ⟨hbad, hchk2⟩ := chkL_ok hx hchk
      obtain ⟨hkk, hkd⟩ := badK_ok hbad
      have hi2 : (k : Int) < (n : Int) := by omega
      have HM : Hid (PM wr B (B + 1) st X K0 R R (psS s) ∧ Okd k d P s ∧ Keeps (fun i => B ≤ i) w wr) := ⟨hM, hok, hkp⟩
      have HN : Hid ((s.deed listK st k x.k x.loc).run listK st ((l.drop (k + 1)).map dp) (k + 1) = endHS listK st (l.map dp) pk ∧ chkL (l.drop (k + 1)) (k + 1) (nxtK x.k d) = none ∧ (P ++ if x.k = 4 then [x.loc] else []) ++ putsL ((l.drop (k + 1)).map dp) = putsL (l.map dp) ∧ (x.k = 0 ∨ x.k = 1 ∨ x.k = 2 ∨ x.k = 3 ∨ x.k = 4) ∧ ¬ (x.k = 1 ∧ d = 0)) := by
        refine ⟨by rw [← run_step hx]; exact hrun, hchk2, ?_, hkk, hkd⟩
        rw [← hput]
        obtain ⟨h1, h2⟩ := List.getElem?_eq_some_iff.1 hx
        conv => rhs; rw [List.drop_eq_getElem_cons h1, h2]
        rw [List.map_cons, putsL_cons, List.append_assoc]
        rfl
      clear hM hok hrun hchk hput hkp hlen hbad hchk2 hkk hkd hx hBw
      obtain ⟨xk, xl⟩ := x
      go_wp2_with fail
      have hkA := Keeps.alloc None wr (.cells #[.int .i64 xk, .int .i64 xl] 44)
      refine (do_any B (B + 1) k d st X K0 R s P _ xk xl (HM.out.1.more hkA) HM.out.2.1 (by omega) hst HN.out.2.2.2.1 HN.out.2.2.2.2 HU.out.1 (fun y hy => HU.out.2 y (by rw [← HN.out.2.2.1]; exact List.mem_append_left _ (List.mem_append_left _ hy)))).mono ?_
      rintro e w5 ⟨rfl, ⟨X5, R5, hM5⟩, hk5⟩
      have HE : Hid (PM w5 B (B + 1) st X5 K0 R5 R5 (psS (s.deed listK st k xk xl)) ∧ Okd (k + 1) (nxtK xk d) (P ++ if xk = 4 then [xl] else []) (s.deed listK st k xk xl) ∧ Keeps (fun i => B ≤ i) w w5) := ⟨hM5, HM.out.2.1.deed st xk xl HN.out.2.2.2.1 HN.out.2.2.2.2, (HM.out.2.2.andAlloc _).trans hk5 (fun i e _ => e)⟩
      clear hM5 hk5 hkA
      go_wp2_with fail
      exact ⟨⟨k + 1, nxtK xk d, _, _, X5, R5, by omega, by go_num, HE.out.1, HE.out.2.1, HN.out.1, HN.out.2.1, HN.out.2.2.1, HE.out.2.2⟩, by simp [intOf]; omega⟩
    · have hkn2 : k = n := by omega
      subst hkn2
      have hi2 : ¬ (k : Int) < (k : Int) := by omega
      rw [List.drop_eq_nil_of_le (by omega)] at hrun hput
      have hs : s = endHS listK st (l.map dp) pk := hrun
      have hPP : P = putsL (l.map dp) := by rw [← hput]; simp [putsL]
      have HFP : Hid (Fits P) := by have h := HU.out.2; rw [← hPP] at h; exact h
      have HM : Hid (PM wr B (B + 1) st X K0 R R (psS s) ∧ Okd k d P s ∧ Keeps (fun i => B ≤ i) w wr ∧ s = endHS listK st (l.map dp) pk ∧ k = l.length ∧ P.length ≤ 4096) := ⟨hM, hok, hkp, hs, hlen, by have := hok.np; omega⟩
      obtain ⟨tb, hta, -, -, -, -, -, -⟩ := hM.cur (tk := s.ini.reverse) (x := (s.sp, s.m.row)) rfl
      have q7 : wr.cell? ⟨B + 1, 7, none⟩ = some (.slice X.ta (s.ini.reverse ++ [(s.sp, s.m.row)]).length X.tc) := hM.c0.2.2.2.2.2.2.2.1
      have hT : (s.ini.reverse ++ [(s.sp, s.m.row)]).length = s.ini.length + 1 := by simp
      rw [hT] at q7
      obtain ⟨T, hTT⟩ : ∃ T, T = s.ini.length + 1 := ⟨_, rfl⟩
      rw [← hTT] at q7
      have HTT : Hid (T = s.ini.length + 1 ∧ T ≤ 5000) := ⟨hTT, by have := hok.ni; have := hok.nd; omega⟩
      clear hM hok hrun hchk hput hkp hlen hs hPP hta hT hTT
      go_wp2_with fail
      clear q7
      go_loopw [42] (fun i wq => ∃ (j : Nat) (X : PX) (R : Nat → Value) (tk : List (Nat × List Nat)) (m : MS (List Int)), i = .int .i64 j ∧ j + tk.length = T ∧ PM wq B (B + 1) st X K0 R R ⟨m.vs, tk, m.pk, s.spn, m.mg, s.lk⟩ ∧ Keeps (fun i => B ≤ i) w wq ∧ ((∃ sp ini, tk = ini.reverse ++ [(sp, m.row)] ∧ Left k P ini m ∧ MS.ends listK k ini m = endMS listK st (l.map dp) pk) ∨ (tk = [] ∧ m = endMS listK st (l.map dp) pk))) (fun i _ => T - (intOf i).toNat)
      case atStart =>
        refine ⟨0, X, R, s.ini.reverse ++ [(s.sp, s.m.row)], s.m, rfl, by simp [HTT.out.1], HM.out.1, HM.out.2.2.1, .inl ⟨s.sp, s.ini, rfl, ⟨HM.out.2.1.inv.lk, HM.out.2.1.inv.line, HM.out.2.1.ct.ct, by have := HM.out.2.1.nv; omega⟩, ?_⟩⟩
        unfold endMS
        rw [← HM.out.2.2.2.1, List.length_map, ← HM.out.2.2.2.2.1]
      case round =>
        obtain ⟨j, X6, R6, tk, m, rfl, hjT, hM6, hk6, hcase⟩ := hrel
        have HEnd : Hid ((endHS listK st (l.map dp) pk).spn = s.spn ∧ (endHS listK st (l.map dp) pk).lk = s.lk) := by
          have h := HM.out.2.2.2.1
          exact ⟨by rw [← h], by rw [← h]⟩
        rcases hcase with ⟨sp, ini, rfl, hL, hends⟩ | ⟨rfl, rfl⟩
        · have hj : j < T := by rw [← hjT]; simp
          have hi5 : (j : Int) < (T : Int) := by omega
          obtain ⟨r1, r2⟩ := hL.rows
          have H6 : Hid (PM wr B (B + 1) st X6 K0 R6 R6 (psOf (psS s) ini.reverse sp m) ∧ Keeps (fun i => B ≤ i) w wr ∧ Left k P ini m ∧ MS.ends listK k ini m = endMS listK st (l.map dp) pk ∧ j + (ini.length + 1) = T) := ⟨hM6, hk6, hL, hends, by rw [← hjT]; simp⟩
          have hin : ini.length ≤ 5000 := by have := H6.out.2.2.2.2; have := HTT.out.2; omega
          clear hM6 hk6 hL hends hjT
          go_wp2_with fail
          refine (merge_ok B (B + 1) k st X6 K0 R6 (psS s) wr ini.reverse sp m (preL ini) P H6.out.1 H6.out.1.sizeLe H6.out.2.2.1.line (by have := HM.out.2.2.2.2.2; omega) r2 (by omega) (by simp; omega) (by omega) HU.out.1 HFP.out).mono ?_
          rintro e w6 ⟨rfl, ⟨X7, R7, hM7⟩, hk7⟩
          have H7 : Hid (PM w6 B (B + 1) st X7 K0 R7 R7 (psOf (psS s) ini.reverse sp (m.all listK k)) ∧ Keeps (fun i => B ≤ i) w w6) := ⟨hM7, H6.out.2.1.trans hk7 (fun i e _ => e)⟩
          clear hM7 hk7
          go_wp2_with fail
          refine (end_ok B (B + 1) st X7 K0 R7 R7 _ w6 ini.reverse (sp, (m.all listK k).row) H7.out.1 rfl (by simp; omega)).mono ?_
          rintro e w7 ⟨rfl, hM8, hk8⟩
          have HE : Hid (∃ (X : PX) (R : Nat → Value) (tk : List (Nat × List Nat)) (m : MS (List Int)), j + 1 + tk.length = T ∧ PM w7 B (B + 1) st X K0 R R ⟨m.vs, tk, m.pk, s.spn, m.mg, s.lk⟩ ∧ Keeps (fun i => B ≤ i) w w7 ∧ ((∃ sp ini, tk = ini.reverse ++ [(sp, m.row)] ∧ Left k P ini m ∧ MS.ends listK k ini m = endMS listK st (l.map dp) pk) ∨ (tk = [] ∧ m = endMS listK st (l.map dp) pk))) := by
            have hkk : Keeps (fun i => B ≤ i) w w7 := H7.out.2.trans hk8 (fun i e _ => by omega)
            have hj5 := H6.out.2.2.2.2
            cases ini with
            | nil => exact ⟨X7, R7, [], m.all listK k, by simp at hj5 ⊢; omega, hM8, hkk, .inr ⟨rfl, H6.out.2.2.2.1⟩⟩
            | cons t ini =>
              refine ⟨X7, R7, ini.reverse ++ [(t.1, t.2)], { m.all listK k with row := t.2 }, by simp at hj5 ⊢; omega, ?_, hkk, .inl ⟨t.1, ini, rfl, H6.out.2.2.1.next, H6.out.2.2.2.1⟩⟩
              have e5 : (t :: ini).reverse = ini.reverse ++ [(t.1, t.2)] := by rw [List.reverse_cons]
              rw [e5] at hM8
              exact hM8
          clear hM8 hk8
          have hT5 := HTT.out.2
          go_wp2_with fail
          obtain ⟨X9, R9, tk9, m9, h9⟩ := HE.out
          exact ⟨⟨j + 1, X9, R9, tk9, m9, by go_num, h9⟩, by simp [intOf]; omega⟩
        · have hj : j = T := by rw [← hjT]; simp
          subst hj
          have hi5 : ¬ (j : Int) < (j : Int) := by omega
          have HE : Hid (PM wr B (B + 1) st X6 K0 R6 R6 ⟨(endMS listK st (l.map dp) pk).vs, [], (endMS listK st (l.map dp) pk).pk, (endHS listK st (l.map dp) pk).spn, (endMS listK st (l.map dp) pk).mg, (endHS listK st (l.map dp) pk).lk⟩ ∧ Keeps None w wr) := by
            refine ⟨by rw [HEnd.out.1, HEnd.out.2]; exact hM6, hk6.mono (fun i e hi => by have h1 := HB.out; have h2 : B ≤ i := e; omega)⟩
          clear hM6 hk6 hjT
          go_wp2_with fail
          go_ret
          rw [← HB.out]
          exact ⟨B + 1, rfl, ⟨X6, R6, HE.out.1⟩, HE.out.2⟩
end Go.Proofs.Ytdiabpoafennlab.Nm
/-! hyper.Fold. -/
namespace Go.Proofs.Ytdiabpoafennlab.Nm
set_option linter.unusedVariables false
set_option maxRecDepth 20000
set_option linter.unusedSimpArgs false
open Go.RowKit Go.HeapKit Go.PlainOps

theorem load_kind (w : World) (g : Nat) (t : TypeId) (v0 v1 v2 v3 : Value) (hb : w.heap[g]? = some (.cells #[v0, v1, v2, v3] t (0, 0))) : (loadVar 74 ⟨g, 0, none⟩).run Try.prog w = .ok (.agg #[v0, v1, v2, v3]) w :=
  run_loadVar_row _ g t 74 _ _ _ hb Try.underlying74 rfl (by kernel_rfl)
def kindV (K0 : NP) : Value := .agg #[.func (.func 51) #[] #[.pointer (some ⟨K0.pu, 0, none⟩)], .func (.func 49) #[] #[.pointer (some ⟨K0.pa, 0, none⟩)], .func (.func 49) #[] #[.pointer (some ⟨K0.pa, 0, none⟩)], .func (.func 52) #[] #[]]
theorem numbers_ok (op u : Int) (w : World) : Calls Try.prog 25 #[.int .i64 op, .int .i64 u] w fun e w' => ∃ K0 : NP, K0.op = op ∧ e = .returned (kindV K0) ∧ w'.cell? ⟨K0.pa, 0, none⟩ = some (.int .i64 op) ∧ w'.cell? ⟨K0.pu, 0, none⟩ = some (.int .i64 u) ∧ Keeps None w w' := by
  go_enter Try.func25, Try.ntmps25
  go_wp2_with fail
  refine bodyPost_ret (results_one (q := 4) (ty := 74) rfl rfl (load_kind _ _ 74 _ _ _ _ (blk_new _ _ _ (by simp)))) rfl ?_
  have hb1 := blk_new w (.cells #[.int .i64 op] 3) w.heap.size rfl
  have hb2 := blk_new (w.alloc (.cells #[.int .i64 op] 3)) (.cells #[.int .i64 u] 2) (w.heap.size + 1) (by simp)
  have k1 := Keeps.alloc None w (.cells #[.int .i64 op] 3)
  have k2 := fun o => Keeps.alloc None (w.alloc (.cells #[.int .i64 op] 3)) o
  have k3 := fun o => Keeps.alloc None ((w.alloc (.cells #[.int .i64 op] 3)).alloc (.cells #[.int .i64 u] 2)) o
  exact ⟨⟨op, w.heap.size, w.heap.size + 1⟩, rfl, rfl, (k3 _).cell ((k2 _).cell (blk_cell hb1 0) (fun f => f)) (fun f => f), (k3 _).cell (blk_cell hb2 0) (fun f => f), (k1.trans (k2 _) (fun _ f _ => f)).trans (k3 _) (fun _ f _ => f)⟩
theorem play_raw (K0 : NP) (a : Option Addr) (n c : Nat) (l : List Dd) (sa : Option Addr) (m sc : Nat) (st : List Bool) (pa : Option Addr) (k pc : Nat) (pk : List Int) (w : World) (hS : Seen w a n l) (hT : SeenV w sa m (bv' st)) (hP : SeenV w pa k (iv pk)) (hpc : k ≤ pc) (hE : refE l st pk = 0) (hu : hasU K0.op = true) (hf : Fits (putsD l)) (hb1 : w.cell? ⟨K0.pa, 0, none⟩ = some (.int .i64 K0.op)) (hb2 : w.cell? ⟨K0.pu, 0, none⟩ = some (.int .i64 (unitV K0.op))) :
    Calls Try.prog 24 #[kindV K0, .slice a n c, .slice sa m sc, .slice pa k pc] w fun e w' =>
      ∃ pb vb vc, e = .returned (.pointer (some ⟨pb, 0, none⟩)) ∧ w'.cell? ⟨pb, 6, none⟩ = some (.slice (some ⟨vb, 0, none⟩) (finPS l st pk).vs.length vc) ∧ w'.cell? ⟨vb, 0, none⟩ = some (.int .i64 (foldV K0.op (putsD l))) ∧ Keeps None w w' := by
  obtain ⟨h1, h2, -, hc⟩ := refE_ok hE
  have hm := hT.len
  have hk := hP.len
  rw [bv_len] at hm
  rw [iv_len] at hk
  subst hm hk
  refine (play_ok K0 a n c l sa sc st pa pc pk w hS hT hP hpc (by have := hS.len; omega) h2 hc hu (by rw [putsD_eq]; exact hf) hb1 hb2).mono ?_
  rintro e w' ⟨pb, X, R, he, hM, hkp⟩
  have hpos : 0 < (finPS l st pk).vs.length := fin_pos l st pk (kinds_of hc)
  have hM2 : PM w' w.heap.size pb st X K0 R R (finPS l st pk) := hM
  obtain ⟨vb, hva, -, hcell, -, -⟩ := hM2.viewAt hpos
  have q6 := hM2.c0.2.2.2.2.2.2.1
  rw [hva] at q6
  rw [fin_puts] at hcell
  exact ⟨pb, vb, _, he, q6, hcell, hkp⟩
def nmE (op : Int) (l : List Dd) (st : List Bool) (pk : List Int) : Int := if foldErr op ((0 : Nat) : Int) = 0 then refE l st pk else foldErr op ((0 : Nat) : Int)
def nmV (op : Int) (l : List Dd) (st : List Bool) (pk : List Int) : Int := if nmE op l st pk = 0 then foldV op (putsD l) else 0
theorem seg_nil (w : World) : Seg w none 0 [] := ⟨Nat.le_refl _, by unfold maxLen; omega, .inl rfl⟩
set_option maxHeartbeats 1600000 in
theorem Fold_ok (op : Int) (a : Option Addr) (n c : Nat) (l : List Dd) (sa : Option Addr) (m sc : Nat) (st : List Bool) (pa : Option Addr) (k pc : Nat) (pk : List Int) (w : World) (hS : Seen w a n l) (hT : SeenV w sa m (bv' st)) (hP : SeenV w pa k (iv pk)) (hpc : k ≤ pc) (hf : Fits (putsD l)) :
    Calls Try.prog 11 #[.int .i64 op, .slice a n c, .slice sa m sc, .slice pa k pc] w fun e w' => e = .returned (.tuple #[.int .i64 (nmV op l st pk), .int .i64 (nmE op l st pk)]) ∧ Keeps None w w' := by
  have HS : Hid (Seen w a n l ∧ SeenV w sa m (bv' st) ∧ SeenV w pa k (iv pk) ∧ k ≤ pc ∧ Fits (putsD l)) := ⟨hS, hT, hP, hpc, hf⟩
  have HL : Hid (m = st.length ∧ k = pk.length) := ⟨by have := hT.len; rwa [bv_len] at this, by have := hP.len; rwa [iv_len] at this⟩
  clear hS hT hP hpc hf
  obtain ⟨E0, hE0⟩ : ∃ E, E = foldErr op ((0 : Nat) : Int) := ⟨_, rfl⟩
  by_cases h0 : foldErr op ((0 : Nat) : Int) = 0
  · have hu := (foldErr_ok h0).1
    obtain ⟨E, hE⟩ : ∃ E, E = refE l st pk := ⟨_, rfl⟩
    obtain ⟨V0, hV0⟩ : ∃ V, V = nmV op l st pk := ⟨_, rfl⟩
    have e1 : nmE op l st pk = E := by unfold nmE; rw [if_pos h0, hE]
    have HF : Hid (foldErr op ((0 : Nat) : Int) = 0 ∧ hasU op = true ∧ E = refE l st pk ∧ V0 = if E = 0 then foldV op (putsD l) else 0) := ⟨h0, hu, hE, by rw [hV0]; unfold nmV; rw [e1]⟩
    rw [e1, ← hV0]
    clear h0 hu hE e1 hE0 hV0
    go_enter Try.func11, Try.ntmps11
    go_wp2_with fail
    refine (fold_ok op none 0 0 [] w HF.out.1 rfl (seg_nil w)).mono ?_
    rintro e w1 ⟨rfl, rfl⟩
    have hun : foldV op [] = unitV op := rfl
    rw [hun]
    clear hun
    go_wp2_with fail
    refine (refused_ok a n c l sa m sc st pa k pc pk w1 HS.out.1 HL.out.1 HL.out.2).mono ?_
    rintro e w2 ⟨rfl, hk2⟩
    rw [← HF.out.2.2.1]
    have HK2 : Hid (Keeps None w1 w2) := hk2
    clear hk2
    by_cases hE : E = 0
    · have HV : Hid (V0 = foldV op (putsD l)) := by have h := HF.out.2.2.2; rw [if_pos hE] at h; exact h
      have HE0 : Hid (refE l st pk = 0) := by rw [← HF.out.2.2.1]; exact hE
      subst hE
      go_wp2_with fail
      refine (numbers_ok op (unitV op) w2).mono ?_
      rintro e w3 ⟨K0, hop, rfl, hb1, hb2, hk3⟩
      have HK3 : Hid (Keeps None w1 w3) := HK2.out.trans hk3 (fun _ f _ => f)
      have HB : Hid (hasU K0.op = true ∧ w3.cell? ⟨K0.pa, 0, none⟩ = some (.int .i64 K0.op) ∧ w3.cell? ⟨K0.pu, 0, none⟩ = some (.int .i64 (unitV K0.op)) ∧ K0.op = op) := ⟨by rw [hop]; exact HF.out.2.1, by rw [hop]; exact hb1, by rw [hop]; exact hb2, hop⟩
      clear hop hb1 hb2 hk3
      obtain ⟨KV, hKV⟩ : ∃ V, V = kindV K0 := ⟨_, rfl⟩
      rw [← hKV]
      have HKV : Hid (KV = kindV K0) := hKV
      clear hKV
      go_wp2_with fail
      rw [HKV.out]
      refine (play_raw K0 a n c l sa m sc st pa k pc pk w3 (HS.out.1.more HK3.out) (HS.out.2.1.more HK3.out) (HS.out.2.2.1.more HK3.out) HS.out.2.2.2.1 HE0.out HB.out.1 HS.out.2.2.2.2 HB.out.2.1 HB.out.2.2.1).mono ?_
      rintro e w4 ⟨pb, vb, vc, rfl, q6, q0, hk4⟩
      rw [HB.out.2.2.2] at q0
      have hpos : 0 < (finPS l st pk).vs.length := fin_pos l st pk (kinds_of (refE_ok HE0.out).2.2.2)
      obtain ⟨VL, hVL⟩ : ∃ VL, VL = (finPS l st pk).vs.length := ⟨_, rfl⟩
      rw [← hVL] at q6 hpos
      rw [← HV.out] at q0
      have i1 : (0 : Int) < (VL : Int) := by omega
      have HK4 : Hid (Keeps None w1 w4) := HK3.out.trans hk4 (fun _ f _ => f)
      clear hVL hk4
      go_wp2
      go_ret2
      exact ⟨rfl, HK4.out⟩
    · have HV : Hid (V0 = 0) := by have h := HF.out.2.2.2; rw [if_neg hE] at h; exact h
      have hE2 : (E != 0) = true := by simp [hE]
      go_wp2
      go_ret2
      exact ⟨by rw [HV.out]; rfl, HK2.out⟩
  · have e1 : nmE op l st pk = E0 := by unfold nmE; rw [if_neg h0, hE0]
    have hE : E0 ≠ 0 := by rw [hE0]; exact h0
    have e2 : nmV op l st pk = 0 := by unfold nmV; rw [e1, if_neg hE]
    have HF : Hid (foldErr op ((0 : Nat) : Int) ≠ 0 ∧ E0 = foldErr op ((0 : Nat) : Int)) := ⟨h0, hE0⟩
    rw [e1, e2]
    have hE2 : (E0 != 0) = true := by simp [hE]
    clear h0 hE0 e1 e2
    go_enter Try.func11, Try.ntmps11
    go_wp2_with fail
    refine (fold_err op none 0 0 w HF.out.1).mono ?_
    rintro e w1 ⟨rfl, rfl⟩
    rw [← HF.out.2]
    go_wp2
    go_ret2
    exact ⟨rfl, Keeps.refl _ _⟩
end Go.Proofs.Ytdiabpoafennlab.Nm
/-! The contract of the document's own Unit. -/
namespace Go.Proofs.Ytdiabpoafennlab
open Go.RowKit Go.PlainOps

section
set_option maxHeartbeats 400000
theorem refUnit0 (w : World) : Calls Try.prog 27 #[.int .i64 0] w fun e w' => e = .returned (.tuple #[.int .i64 (0), .bool true]) ∧ w' = w := by
  go_enter Try.func27, Try.ntmps27
  go_wp2
  go_ret2
  exact ⟨rfl, rfl⟩
theorem refUnit2 (w : World) : Calls Try.prog 27 #[.int .i64 2] w fun e w' => e = .returned (.tuple #[.int .i64 (1), .bool true]) ∧ w' = w := by
  go_enter Try.func27, Try.ntmps27
  go_wp2
  go_ret2
  exact ⟨rfl, rfl⟩
theorem refUnit5 (w : World) : Calls Try.prog 27 #[.int .i64 5] w fun e w' => e = .returned (.tuple #[.int .i64 (-1), .bool true]) ∧ w' = w := by
  go_enter Try.func27, Try.ntmps27
  go_wp2
  go_ret2
  exact ⟨rfl, rfl⟩
theorem refUnit6 (w : World) : Calls Try.prog 27 #[.int .i64 6] w fun e w' => e = .returned (.tuple #[.int .i64 (0), .bool true]) ∧ w' = w := by
  go_enter Try.func27, Try.ntmps27
  go_wp2
  go_ret2
  exact ⟨rfl, rfl⟩
theorem refUnit7 (w : World) : Calls Try.prog 27 #[.int .i64 7] w fun e w' => e = .returned (.tuple #[.int .i64 (0), .bool true]) ∧ w' = w := by
  go_enter Try.func27, Try.ntmps27
  go_wp2
  go_ret2
  exact ⟨rfl, rfl⟩
theorem refUnit10 (w : World) : Calls Try.prog 27 #[.int .i64 10] w fun e w' => e = .returned (.tuple #[.int .i64 (9223372036854775807), .bool true]) ∧ w' = w := by
  go_enter Try.func27, Try.ntmps27
  go_wp2
  go_ret2
  exact ⟨rfl, rfl⟩
theorem refUnit11 (w : World) : Calls Try.prog 27 #[.int .i64 11] w fun e w' => e = .returned (.tuple #[.int .i64 (-9223372036854775808), .bool true]) ∧ w' = w := by
  go_enter Try.func27, Try.ntmps27
  go_wp2
  go_ret2
  exact ⟨rfl, rfl⟩
theorem refUnit_not (op : Int) (w : World) (h : hasU op = false) : Calls Try.prog 27 #[.int .i64 op] w fun e w' => e = .returned (.tuple #[.int .i64 0, .bool false]) ∧ w' = w := by
  simp only [hasU, Bool.or_eq_false_iff] at h
  obtain ⟨⟨⟨⟨⟨⟨h0, h2⟩, h5⟩, h6⟩, h7⟩, h10⟩, h11⟩ := h
  go_enter Try.func27, Try.ntmps27
  go_wp2
  go_ret2
  exact ⟨rfl, rfl⟩
theorem refUnit_any (op : Int) (w : World) (h : hasU op = true) : Calls Try.prog 27 #[.int .i64 op] w fun e w' => e = .returned (.tuple #[.int .i64 (unitV op), .bool true]) ∧ w' = w := by
  have hc : op = 0 ∨ op = 2 ∨ op = 5 ∨ op = 6 ∨ op = 7 ∨ op = 10 ∨ op = 11 := by
    simp only [hasU, Bool.or_eq_true, beq_iff_eq] at h
    omega
  rcases hc with rfl | rfl | rfl | rfl | rfl | rfl | rfl
  · exact refUnit0 w
  · exact refUnit2 w
  · exact refUnit5 w
  · exact refUnit6 w
  · exact refUnit7 w
  · exact refUnit10 w
  · exact refUnit11 w
end
end Go.Proofs.Ytdiabpoafennlab
/-! The contracts of the document's own folds, Fold, halves, Tree. -/
namespace Go.Proofs.Ytdiabpoafennlab
open Go.RowKit Go.PlainOps
theorem foldK_fits (op : Int) (h : hasU op = true) (zs : List Int) (hz : Fits zs) (k : Nat) : -9223372036854775808 ≤ foldK op zs k ∧ foldK op zs k ≤ 9223372036854775807 := foldl_fits op h _ _ (hz.take k) (unitV_fits op)
theorem fits_getD {zs : List Int} (h : Fits zs) (k : Nat) (hk : k < zs.length) : -9223372036854775808 ≤ zs.getD k 0 ∧ zs.getD k 0 ≤ 9223372036854775807 := by
  simp only [List.getD, List.getElem?_eq_getElem hk, Option.getD_some]
  exact h _ (List.getElem_mem hk)
theorem refFolds_ok (op n : Int) (w : World) (h : hasU op = true) (hn : n ≤ 65536) : Calls Try.prog 53 #[.int .i64 op, .int .i64 n] w fun e w' => e = .returned (.int .i64 0) ∧ w' = w := by
  have hi : 0 ≤ op ∧ op < 16 := by simpa [isOpV] using isOp_hasU h
  obtain ⟨i0, i1⟩ := hi
  have H : Hid (hasU op = true) := h
  clear h
  go_enter Try.func53, Try.ntmps53
  go_wp2_with (go_at_call 27; refine (refUnit_any _ _ H.out).mono ?_; rintro e w' ⟨rfl, rfl⟩)
  go_ret
  exact ⟨rfl, rfl⟩
theorem refFolds_long (op n : Int) (w : World) (h : hasU op = true) (hn : 65536 < n) : Calls Try.prog 53 #[.int .i64 op, .int .i64 n] w fun e w' => e = .returned (.int .i64 2) ∧ w' = w := by
  have hi : 0 ≤ op ∧ op < 16 := by simpa [isOpV] using isOp_hasU h
  obtain ⟨i0, i1⟩ := hi
  have H : Hid (hasU op = true) := h
  clear h
  go_enter Try.func53, Try.ntmps53
  go_wp2_with (go_at_call 27; refine (refUnit_any _ _ H.out).mono ?_; rintro e w' ⟨rfl, rfl⟩)
  go_ret
  exact ⟨rfl, rfl⟩
theorem refFolds_unit (op n : Int) (w : World) (hi : isOpV op = true) (h : hasU op = false) : Calls Try.prog 53 #[.int .i64 op, .int .i64 n] w fun e w' => e = .returned (.int .i64 11) ∧ w' = w := by
  have hi : 0 ≤ op ∧ op < 16 := by simpa [isOpV] using hi
  obtain ⟨i0, i1⟩ := hi
  have H : Hid (hasU op = false) := h
  clear h
  go_enter Try.func53, Try.ntmps53
  go_wp2_with (go_at_call 27; refine (refUnit_not _ _ H.out).mono ?_; rintro e w' ⟨rfl, rfl⟩)
  go_ret
  exact ⟨rfl, rfl⟩
theorem refFolds_op (op n : Int) (w : World) (hi : isOpV op = false) : Calls Try.prog 53 #[.int .i64 op, .int .i64 n] w fun e w' => e = .returned (.int .i64 10) ∧ w' = w := by
  have hr : ¬ (0 ≤ op ∧ op < 16) := by simpa [isOpV] using hi
  clear hi
  by_cases r0 : op < 0
  · clear hr
    go_enter Try.func53, Try.ntmps53
    go_wp2
    go_ret
    exact ⟨rfl, rfl⟩
  · have r1 : 16 ≤ op := by omega
    clear hr
    go_enter Try.func53, Try.ntmps53
    go_wp2
    go_ret
    exact ⟨rfl, rfl⟩
theorem refFolds_any (op n : Int) (w : World) : Calls Try.prog 53 #[.int .i64 op, .int .i64 n] w fun e w' => e = .returned (.int .i64 (foldErr op n)) ∧ w' = w := by
  unfold foldErr
  split
  · rename_i h1; exact refFolds_op op n w h1
  · rename_i h1
    split
    · rename_i h2; exact refFolds_unit op n w (by simpa using h1) h2
    · rename_i h2
      split
      · rename_i h3; exact refFolds_long op n w (by simpa using h2) h3
      · rename_i h3; exact refFolds_ok op n w (by simpa using h2) (by omega)
theorem refFold_err (op : Int) (a : Option Addr) (n cap : Nat) (w : World) (h : foldErr op n ≠ 0) : Calls Try.prog 26 #[.int .i64 op, .slice a n cap] w fun e w' => e = .returned (.tuple #[.int .i64 0, .int .i64 (foldErr op n)]) ∧ w' = w := by
  have hb : (foldErr op n != 0) = true := by rw [bne_iff_ne]; exact h
  clear h
  go_enter Try.func26, Try.ntmps26
  go_wp2_with (go_at_call 53; refine (refFolds_any _ _ _).mono ?_; rintro e w' ⟨rfl, rfl⟩)
  go_ret2
  exact ⟨rfl, rfl⟩
theorem refFold_ok (op : Int) (a : Option Addr) (n cap : Nat) (zs : List Int) (w : World) (h : foldErr op n = 0) (hn : zs.length = n) (hf : Fits zs) (hs : Seg w a cap zs) : Calls Try.prog 26 #[.int .i64 op, .slice a n cap] w fun e w' => e = .returned (.tuple #[.int .i64 (foldV op zs), .int .i64 0]) ∧ w' = w := by
  obtain ⟨hU, hle⟩ := foldErr_ok h
  subst hn
  obtain ⟨hc, hm, hcell⟩ := hs
  unfold maxLen at hm
  have HI : Hid (isOpV op = true) := isOp_hasU hU
  have HU : Hid (hasU op = true) := hU
  have HF : Hid (Fits zs) := hf
  clear hU hf
  rcases hcell with rfl | ⟨b, off, rfl, hcell⟩
  · have E : Hid (foldV op [] = unitV op) := rfl
    have h : foldErr op 0 = 0 := h
    go_enter Try.func26, Try.ntmps26
    go_wp2_with (first | (go_at_call 53; refine (refFolds_any _ _ _).mono ?_; rintro e w' ⟨rfl, rfl⟩) | (go_at_call 27; refine (refUnit_any _ _ HU.out).mono ?_; rintro e w' ⟨rfl, rfl⟩))
    go_loop [7, 9] (fun v i => i = .int .i64 0 ∧ v = .int .i64 (unitV op)) (fun _ _ => 0)
    case atStart => exact ⟨rfl, rfl⟩
    case round =>
      obtain ⟨rfl, rfl⟩ := hrel
      go_wp2
      go_ret2
      exact ⟨by rw [E.out]; rfl, rfl⟩
  · go_enter Try.func26, Try.ntmps26
    go_wp2_with (first | (go_at_call 53; refine (refFolds_any _ _ _).mono ?_; rintro e w' ⟨rfl, rfl⟩) | (go_at_call 27; refine (refUnit_any _ _ HU.out).mono ?_; rintro e w' ⟨rfl, rfl⟩))
    go_loop [7, 9] (fun v i => ∃ k : Nat, k ≤ zs.length ∧ i = .int .i64 k ∧ v = .int .i64 (foldK op zs k)) (fun _ i => zs.length - (intOf i).toNat)
    case atStart => exact ⟨0, by omega, rfl, by rw [foldK_zero]⟩
    case round =>
      obtain ⟨k, hk, rfl, rfl⟩ := hrel
      by_cases hlt : k < zs.length
      · have hck := hcell k hlt
        have E : Hid (workV op (foldK op zs k) (zs.getD k 0) = foldK op zs (k + 1)) := foldK_succ op zs k hlt
        have HK := foldK_fits op HU.out zs HF.out k
        have HG := fits_getD HF.out k hlt
        clear hcell
        generalize zs.getD k 0 = z at hck E HG
        obtain ⟨f0, f1⟩ := HK
        obtain ⟨f2, f3⟩ := HG
        go_wp2_with (go_at_call 54; refine (refWork_any _ _ _ _ HI.out f0 f1 f2 f3).mono ?_; rintro e w' ⟨rfl, rfl⟩)
        exact ⟨⟨k + 1, by omega, by go_num, by rw [← E.out]⟩, by simp [intOf]; omega⟩
      · have E : Hid (foldK op zs k = foldV op zs) := foldK_end op zs k (by omega)
        go_wp2
        go_ret2
        exact ⟨by rw [← E.out]; rfl, rfl⟩
end Go.Proofs.Ytdiabpoafennlab
/-! The document's answer: Fold. -/
namespace Go.Proofs.Ytdiabpoafennlab.Rn
set_option linter.unusedVariables false
set_option maxRecDepth 20000
set_option linter.unusedSimpArgs false
open Go.RowKit Go.HeapKit Go.PlainOps

theorem RTold.number {w : World} {base : Nat} {K : RP} {X : RX} {L M : Nat → Value} {l : List Dd} {st : List Bool} {pk : List Int} (h : RTold w base K X L M (finPS l st pk)) (hc : chkL l 0 0 = none) (h0 : 0 ≤ K.op) : ∃ vb, X.va = some ⟨vb, 0, none⟩ ∧ w.cell? ⟨vb, 1, none⟩ = some (.int .i64 (foldV K.op (putsD l))) := by
  have hp := finPS_len l st pk hc
  obtain ⟨g, e, _, _, _, hcell, _⟩ := own_cellS h.vw.views (k := 1) (range_get _ (by omega))
  refine ⟨g, e, ?_⟩
  rw [hcell]
  have e2 : (finPS l st pk).vs.getD 0 [] = putsD l := fin_puts l st pk
  simp only [vF, show ¬ (1 % 2 = 0) by decide, if_false, show 1 / 2 = 0 by decide]
  rw [e2]
  unfold gV
  rw [if_neg (by omega)]
set_option maxHeartbeats 1600000 in
theorem RFold_ok (op : Int) (a : Option Addr) (n c : Nat) (l : List Dd) (sa : Option Addr) (m sc : Nat) (st : List Bool) (pa : Option Addr) (k pc : Nat) (pk : List Int) (w : World) (hS : Seen w a n l) (hT : SeenV w sa m (bv' st)) (hP : SeenV w pa k (iv pk)) (hf : Fits (l.map Dd.loc)) :
    Calls Try.prog 12 #[.int .i64 op, .slice a n c, .slice sa m sc, .slice pa k pc] w fun e w' => e = .returned (.tuple #[.int .i64 (Nm.nmV op l st pk), .int .i64 (Nm.nmE op l st pk)]) ∧ Keeps None w w' := by
  have HS : Hid (Seen w a n l ∧ SeenV w sa m (bv' st) ∧ SeenV w pa k (iv pk) ∧ Fits (l.map Dd.loc)) := ⟨hS, hT, hP, hf⟩
  have HL : Hid (m = st.length ∧ k = pk.length) := ⟨by have := hT.len; rwa [bv_len] at this, by have := hP.len; rwa [iv_len] at this⟩
  clear hS hT hP hf
  obtain ⟨E0, hE0⟩ : ∃ E, E = foldErr op ((0 : Nat) : Int) := ⟨_, rfl⟩
  by_cases h0 : foldErr op ((0 : Nat) : Int) = 0
  · have hu := (foldErr_ok h0).1
    obtain ⟨E, hE⟩ : ∃ E, E = refE l st pk := ⟨_, rfl⟩
    obtain ⟨V0, hV0⟩ : ∃ V, V = Nm.nmV op l st pk := ⟨_, rfl⟩
    have e1 : Nm.nmE op l st pk = E := by unfold Nm.nmE; rw [if_pos h0, hE]
    have HF : Hid (foldErr op ((0 : Nat) : Int) = 0 ∧ hasU op = true ∧ E = refE l st pk ∧ V0 = if E = 0 then foldV op (putsD l) else 0) := ⟨h0, hu, hE, by rw [hV0]; unfold Nm.nmV; rw [e1]⟩
    rw [e1, ← hV0]
    clear h0 hu hE e1 hE0 hV0
    go_enter Try.func12, Try.ntmps12
    go_wp2_with fail
    refine (refFold_ok op none 0 0 [] w HF.out.1 rfl (fun x hx => by simp at hx) (Nm.seg_nil w)).mono ?_
    rintro e w1 ⟨rfl, rfl⟩
    have hun : foldV op [] = unitV op := rfl
    rw [hun]
    clear hun
    go_wp2_with fail
    refine (rrefused_ok a n c l sa m sc st pa k pc pk w1 HS.out.1 HL.out.1 HL.out.2).mono ?_
    rintro e w2 ⟨rfl, hk2⟩
    rw [← HF.out.2.2.1]
    have HK2 : Hid (Keeps None w1 w2) := hk2
    clear hk2
    by_cases hE : E = 0
    · have HV : Hid (V0 = foldV op (putsD l)) := by have h := HF.out.2.2.2; rw [if_pos hE] at h; exact h
      have HE0 : Hid (refE l st pk = 0) := by rw [← HF.out.2.2.1]; exact hE
      subst hE
      go_wp2_with fail
      refine (refUnit_any op w2 HF.out.2.1).mono ?_
      rintro e w3 ⟨rfl, rfl⟩
      have hop : 0 ≤ op := by
        have h := hasU_isOp HF.out.2.1
        have h2 : 0 ≤ op ∧ op < 16 := by simpa [isOpV] using h
        exact h2.1
      have HO : Hid (0 ≤ op) := hop
      clear hop
      go_wp2_with fail
      have HRE := refE_ok HE0.out
      refine (whole_ok ⟨op, unitV op, pk, pa, pc⟩ a n c l sa m sc st k w3 (HS.out.1.more HK2.out) (HS.out.2.1.more HK2.out) (HS.out.2.2.1.more HK2.out) (.inr ⟨HO.out, HF.out.2.1, rfl⟩) (by rw [HS.out.1.len]; exact HRE.1) HRE.2.1 HRE.2.2.1 HRE.2.2.2 HS.out.2.2.2).mono ?_
      clear HRE
      rintro e w4 ⟨pb, X, L, M, rfl, hM, hk4⟩
      obtain ⟨vb, hva, q0⟩ := hM.told.number (refE_ok HE0.out).2.2.2 HO.out
      have q2 := hM.c2
      rw [hva] at q2
      have hpos : 0 < (finPS l st pk).vs.length := finPS_len l st pk (refE_ok HE0.out).2.2.2
      obtain ⟨VL, hVL⟩ : ∃ VL, VL = (finPS l st pk).vs.length := ⟨_, rfl⟩
      rw [← hVL] at q2 hpos
      have q1 : w4.cell? ⟨vb, 1, none⟩ = some (.int .i64 V0) := by rw [HV.out]; exact q0
      have i1 : (0 : Int) < (VL : Int) := by omega
      have HK4 : Hid (Keeps None w1 w4) := HK2.out.trans hk4 (fun _ f _ => f)
      clear hVL hk4 hM q0 hva
      go_wp2
      go_ret2
      exact ⟨rfl, HK4.out⟩
    · have HV : Hid (V0 = 0) := by have h := HF.out.2.2.2; rw [if_neg hE] at h; exact h
      have hE2 : (E != 0) = true := by simp [hE]
      go_wp2
      go_ret2
      exact ⟨by rw [HV.out]; rfl, HK2.out⟩
  · have e1 : Nm.nmE op l st pk = E0 := by unfold Nm.nmE; rw [if_neg h0, hE0]
    have hE : E0 ≠ 0 := by rw [hE0]; exact h0
    have e2 : Nm.nmV op l st pk = 0 := by unfold Nm.nmV; rw [e1, if_neg hE]
    have HF : Hid (foldErr op ((0 : Nat) : Int) ≠ 0 ∧ E0 = foldErr op ((0 : Nat) : Int)) := ⟨h0, hE0⟩
    rw [e1, e2]
    have hE2 : (E0 != 0) = true := by simp [hE]
    clear h0 hE0 e1 e2
    go_enter Try.func12, Try.ntmps12
    go_wp2_with fail
    refine (refFold_err op none 0 0 w HF.out.1).mono ?_
    rintro e w1 ⟨rfl, rfl⟩
    rw [← HF.out.2]
    go_wp2
    go_ret2
    exact ⟨rfl, Keeps.refl _ _⟩
end Go.Proofs.Ytdiabpoafennlab.Rn
/-! Structs of 64-bit numbers among the arguments, and slices of them. Whatever the program. -/
namespace Go.HeapKit
open Go.ChangeShapes Go.WideShapes Go.ChangeAt Go.RowKit Go.Deep

section
variable {H : Type} {enc : TypeId × Value → H} {P : Program} {w : World} {base : Nat} {spare : Nat → Bool} {held : Bool}

/-- All fields are 64-bit numbers, one cell each, in order. -/
def allInts (P : Program) (fs : List Field) : Bool :=
  (List.range fs.length).all fun i => match fs[i]? with
    | some f => f.offset == i && (match P.underlying f.type with | some (.int .i64) => true | _ => false) && P.cellsOf f.type == 1
    | none => false
theorem allInts_at {fs : List Field} (h : allInts P fs = true) {i : Nat} {f : Field} (hf : fs[i]? = some f) : f.offset = i ∧ P.underlying f.type = some (.int .i64) ∧ P.cellsOf f.type = 1 := by
  have hi : i < fs.length := (List.getElem?_eq_some_iff.1 hf).1
  have := List.all_eq_true.1 h i (List.mem_range.2 hi)
  rw [hf] at this
  simp only [Bool.and_eq_true, beq_iff_eq] at this
  obtain ⟨⟨h1, h2⟩, h3⟩ := this
  refine ⟨h1, ?_, h3⟩
  split at h2
  · assumption
  · cases h2

theorem struct_ints {t : TypeId} {fs : Array Field} {fuel : Nat} {cs : List Value} {x : DataW H × List MemPlace} (ht : P.underlying t = some (.struct fs)) (ha : allInts P fs.toList = true) (hc : P.cellsOf t = fs.size)
    (h : DataW.trod enc P w base spare held fuel t cs = some x) : ∃ ns : List Int, ns.length = fs.size ∧ cs = ns.map (Value.int .i64) ∧ ∀ n ∈ ns, (Lit.int .i64 n).wf = true := by
  obtain ⟨xs, n, _, rfl, hl, hlen, hf⟩ := DataW.trod_struct ht h
  rw [hc] at hl
  have hat : ∀ i, i < fs.size → ∃ m : Int, cs[i]? = some (.int .i64 m) ∧ (Lit.int .i64 m).wf = true := by
    intro i hi
    have hfi : fs[i]? = some fs[i] := by simp [hi]
    obtain ⟨h1, h2, h3⟩ := allInts_at ha (i := i) (f := fs[i]) (by simp)
    have hq := hf i fs[i] hfi
    rw [h1, h3, show xs[i]? = some xs[i] by simp] at hq
    obtain ⟨m, hm, _, hw⟩ := DataW.trod_int h2 hq
    refine ⟨m, ?_, hw⟩
    have : (List.take 1 (List.drop i cs))[0]? = some (.int .i64 m) := by rw [hm]; rfl
    simpa [List.getElem?_take, List.getElem?_drop] using this
  have hall : ∀ v ∈ cs, ∃ m : Int, v = .int .i64 m ∧ (Lit.int .i64 m).wf = true := by
    intro v hv
    obtain ⟨i, hi, rfl⟩ := List.mem_iff_getElem.1 hv
    obtain ⟨m, hm, hw⟩ := hat i (by omega)
    exact ⟨m, by simpa [hi] using hm, hw⟩
  have hex : ∀ cs : List Value, (∀ v ∈ cs, ∃ m : Int, v = .int .i64 m ∧ (Lit.int .i64 m).wf = true) → ∃ ns : List Int, cs = ns.map (Value.int .i64) ∧ ∀ n ∈ ns, (Lit.int .i64 n).wf = true := by
    intro cs
    induction cs with
    | nil => exact fun _ => ⟨[], rfl, fun _ h => by cases h⟩
    | cons v cs ih =>
      intro hv
      obtain ⟨ns, rfl, hw⟩ := ih (fun u hu => hv u (List.mem_cons_of_mem _ hu))
      obtain ⟨m, rfl, hm⟩ := hv v (List.mem_cons_self ..)
      refine ⟨m :: ns, rfl, ?_⟩
      intro n hn
      rcases List.mem_cons.1 hn with rfl | hn
      · exact hm
      · exact hw n hn
  obtain ⟨ns, rfl, hw⟩ := hex cs hall
  exact ⟨ns, by simpa using hl, rfl, hw⟩

end
end Go.HeapKit
/-! A game of a reducer among the arguments. -/
namespace Go.Proofs.Ytdiabpoafennlab
set_option linter.unusedVariables false
set_option maxRecDepth 20000
open Go.ChangeShapes Go.WideShapes Go.ChangeAt Go.RowKit Go.HeapKit Go.Deep

def okG (x : Int) : Prop := -9223372036854775808 ≤ x ∧ x ≤ 9223372036854775807
theorem okG_of_wf {x : Int} (h : (Lit.int .i64 x).wf = true) : okG x := by
  have h1 : IntKind.i64.min = -9223372036854775808 := by decide
  have h2 : IntKind.i64.max = 9223372036854775807 := by decide
  simp [Lit.wf, h1, h2] at h
  unfold okG
  omega
section
variable {H : Type} {enc : TypeId × Value → H} {w : World} {base : Nat} {held : Bool}
theorem g_spot_none {w : World} {x : Addr} {v : Value} (h : w.cell? x = some v) : x.spot = none := by
  unfold World.cell? at h
  split at h
  · split at h
    · cases h
    · rename_i hs; simpa using hs
  · cases h
theorem g_spot_first {w : World} {base n : Nat} {x : Addr} {cs : List Value} (h : w.cells? base (x.add (0 * n)) n = some cs) (hn : 0 < n) : x.spot = none := by
  obtain ⟨_, hl, hc⟩ := World.cells?_some h
  have h0 := hc 0 hn
  rw [Nat.zero_mul, show (x.add 0).add 0 = x by unfold Addr.add; simp, List.getElem?_eq_getElem (by omega)] at h0
  exact g_spot_none h0
theorem g_choose {α : Type} (p : Nat → α → Prop) (n : Nat) (h : ∀ i, i < n → ∃ x, p i x) : ∃ l : List α, l.length = n ∧ ∀ i x, l[i]? = some x → p i x := by
  induction n with
  | zero => exact ⟨[], rfl, fun i x hx => by simp at hx⟩
  | succ n ih =>
    obtain ⟨l, hl, hp⟩ := ih (fun i hi => h i (by omega))
    obtain ⟨x, hx⟩ := h n (by omega)
    refine ⟨l ++ [x], by simp [hl], fun i y hy => ?_⟩
    by_cases hi : i < n
    · rw [List.getElem?_append_left (by omega)] at hy
      exact hp i y hy
    · have hlt := (List.getElem?_eq_some_iff.1 hy).1
      simp [hl] at hlt
      obtain rfl : i = n := by omega
      rw [List.getElem?_append_right (by omega), hl] at hy
      simp at hy
      subst hy
      exact hx
theorem g_lt {w : World} {b o : Nat} {v : Value} (h : w.cell? ⟨b, o, none⟩ = some v) : b < w.heap.size := by
  cases hb : w.heap[b]? with
  | none => simp [World.cell?, hb] at h
  | some o => exact (Array.getElem?_eq_some_iff.1 hb).1
def okD (x : Dd) : Prop := okG x.k ∧ okG x.loc
/-- Deeds that came in. -/
theorem open_deeds {fuel : Nat} {cs : List Value} {x : DataW H × List MemPlace} (h : DataW.trod enc Try.prog w base (fun _ => true) held fuel 22 cs = some x) :
    ∃ ca n cc l, cs = [.slice ca n cc] ∧ Seen w ca n l ∧ (∀ i ∈ l, okD i) ∧ n ≤ cc ∧ (n = 0 ∨ ∃ elems sp, x.1 = .slice elems sp ∧ n ≤ elems.length + sp.length) := by
  rcases open_slice Try.underlying22 h with ⟨rfl, _⟩ | ⟨a, len, cap, m, n, D, Pl, rfl, _, hl, hm, hmm, hx, hall⟩
  · exact ⟨none, 0, 0, [], rfl, ⟨rfl, fun h => by omega⟩, (fun i hi => by cases hi), Nat.le_refl _, .inl rfl⟩
  · simp at hmm
    subst hmm
    have hc : Try.prog.cellsOf 44 = 2 := by kernel_rfl
    rw [hc] at hall
    have hex : ∀ i, i < len → ∃ x : Dd, okD x ∧ ∃ b off, a = ⟨b, off, none⟩ ∧ b < w.heap.size ∧ w.cell? ⟨b, off + i * 2, none⟩ = some (.int .i64 x.k) ∧ w.cell? ⟨b, off + i * 2 + 1, none⟩ = some (.int .i64 x.loc) := by
      intro i hi
      obtain ⟨cs', h1, h2⟩ := hall i (by omega)
      obtain ⟨ns, hl, rfl, hw⟩ := struct_ints Try.underlying44 (by kernel_rfl) (by kernel_rfl) h2
      obtain ⟨_, hlen, hcell⟩ := World.cells?_some h1
      have hl5 : ns.length = 2 := hl
      match ns, hl5 with
      | [n0, n1], _ =>
        obtain ⟨b, off, sp⟩ := a
        have hsp : sp = none := by
          obtain ⟨cs0, hz, _⟩ := hall 0 (by omega)
          exact g_spot_first hz (by omega)
        subst hsp
        have hh : ∀ j, j < 2 → w.cell? ⟨b, off + i * 2 + j, none⟩ = ([n0, n1].map (Value.int .i64))[j]? := by
          intro j hj
          have := hcell j hj
          rw [addr_at, addr_at] at this
          exact this
        exact ⟨⟨n0, n1⟩, ⟨okG_of_wf (hw _ (by simp)), okG_of_wf (hw _ (by simp))⟩, b, off, rfl, g_lt (hh 0 (by omega)), hh 0 (by omega), hh 1 (by omega)⟩
    obtain ⟨l, hll, hp⟩ := g_choose _ len hex
    refine ⟨some a, len, m, l, rfl, ⟨hll.symm, fun h0 => ?_⟩, fun i hi => ?_, hl, ?_⟩
    · obtain ⟨_, b, off, rfl, hb, _⟩ := hp 0 (l[0]'(by omega)) (by simp)
      refine ⟨b, off, rfl, hb, fun k i hi => ?_⟩
      obtain ⟨_, b', off', e, _, hat⟩ := hp k i hi
      injection e with e1 e2
      subst e1 e2
      exact ⟨hat.1, hat.2⟩
    · obtain ⟨k, hk, rfl⟩ := List.mem_iff_getElem.1 hi
      exact (hp k _ (by simp)).1
    · exact .inr ⟨_, _, congrArg Prod.fst hx, by simp⟩
/-- One-cell values that came in. -/
theorem open_ints1 {fuel : Nat} {cs : List Value} {x : DataW H × List MemPlace} (h : DataW.trod enc Try.prog w base (fun _ => true) held fuel 24 cs = some x) :
    ∃ ca n cc l, cs = [.slice ca n cc] ∧ SeenV w ca n (iv l) ∧ (∀ i ∈ l, okG i) ∧ n ≤ cc ∧ (n = 0 ∨ ∃ elems sp, x.1 = .slice elems sp ∧ n ≤ elems.length + sp.length) := by
  rcases open_ints Try.underlying24 Try.underlying3 (by kernel_rfl) h with ⟨hcs, _⟩ | ⟨a, l, c, zs, hcs, _, hl, hm, hz, hx, hcell, hwz⟩
  · exact ⟨none, 0, 0, [], hcs, ⟨rfl, fun h => by omega⟩, (fun i hi => by cases hi), Nat.le_refl _, .inl rfl⟩
  · have hz2 : zs.length = c := by simpa using hz
    refine ⟨some a, l, c, zs.take l, hcs, ⟨by rw [iv_len, List.length_take]; omega, fun h0 => ?_⟩, fun i hi => okG_of_wf (hwz i (List.mem_of_mem_take hi)), hl, .inr ⟨_, _, congrArg Prod.fst hx, by simp [lits]; omega⟩⟩
    obtain ⟨b, off, sp⟩ := a
    have hc0 := hcell 0 (by omega)
    have hsp : sp = none := by
      have := g_spot_none hc0
      unfold Addr.add at this
      split at this <;> simp_all
    subst hsp
    rw [addr_at] at hc0
    refine ⟨b, off, rfl, g_lt hc0, fun i v hi => ?_⟩
    have hil := (List.getElem?_eq_some_iff.1 hi).1
    rw [iv_len, List.length_take] at hil
    have := hcell i (by omega)
    rw [addr_at] at this
    rw [this, ← hi]
    simp [iv, show i < l by omega, show i < zs.length by omega]
theorem open_bools1 {fuel : Nat} {cs : List Value} {x : DataW H × List MemPlace} (h : DataW.trod enc Try.prog w base (fun _ => true) held fuel 23 cs = some x) :
    ∃ ca n cc l, cs = [.slice ca n cc] ∧ SeenV w ca n (bv' l) ∧ n ≤ cc ∧ (n = 0 ∨ ∃ elems sp, x.1 = .slice elems sp ∧ n ≤ elems.length + sp.length) := by
  rcases open_slice Try.underlying23 h with ⟨hcs, _⟩ | ⟨a', len, cap, m, n', D, Pl, hcs, _, hl, hm, hmm, hx, hall⟩
  · exact ⟨none, 0, 0, [], hcs, ⟨rfl, fun h => by omega⟩, Nat.le_refl _, .inl rfl⟩
  · simp at hmm
    subst hmm
    have hc : Try.prog.cellsOf 4 = 1 := by kernel_rfl
    rw [hc] at hall
    have hex : ∀ i, i < len → ∃ x : Bool, w.cell? (a'.add i) = some (.bool x) := by
      intro i hi
      obtain ⟨cs', h1, h2⟩ := hall i (by omega)
      obtain ⟨_, hlen, hcell⟩ := World.cells?_some h1
      obtain ⟨x, rfl, _⟩ := DataW.trod_bool Try.underlying4 h2
      have := hcell 0 (by omega)
      refine ⟨x, ?_⟩
      rw [Nat.mul_one] at this
      rw [show (a'.add i).add 0 = a'.add i by unfold Addr.add; split <;> simp_all] at this
      exact this
    obtain ⟨l, hll, hp⟩ := g_choose _ len hex
    refine ⟨some a', len, m, l, hcs, ⟨by rw [bv_len]; exact hll.symm, fun h0 => ?_⟩, hl, .inr ⟨_, _, congrArg Prod.fst hx, by simp⟩⟩
    obtain ⟨b, off, sp⟩ := a'
    have hsp : sp = none := by
      obtain ⟨x, hx⟩ := hex 0 h0
      have := g_spot_none hx
      unfold Addr.add at this
      split at this <;> simp_all
    subst hsp
    refine ⟨b, off, rfl, ?_, fun k v hv => ?_⟩
    · obtain ⟨x, hx⟩ := hex 0 h0
      rw [addr_at] at hx
      exact g_lt hx
    · rw [bv', List.getElem?_map] at hv
      cases hk : l[k]? with
      | none => rw [hk] at hv; cases hv
      | some x =>
        rw [hk] at hv
        obtain rfl := Option.some.inj hv
        have := hp k x hk
        rwa [addr_at] at this
theorem weights_at {P : Program} {ts : List TypeId} {ds : List (DataW H)} (h : (DataW.weightsEach P ts ds).all (· ≤ reachBytes) = true) {j : Nat} {t : TypeId} {d : DataW H} (ht : ts[j]? = some t) (hd : ds[j]? = some d) :
    (d.weights P t).all (· ≤ reachBytes) = true := by
  refine List.all_eq_true.2 fun n hn => ?_
  exact List.all_eq_true.1 h n (DataW.weights_mem_each ht hd n hn)
/-- A game: its three lists. -/
theorem open_hgame {r : Reach} {b0 : Nat} {v : Value} {d : DataW H} {ps : List MemPlace} (hval : Value.okWide Try.prog w r b0 26 v) (hd : DataW.Trod enc Try.prog w base (fun _ => true) held 26 v d ps) :
    ∃ a n c l b m e st p k f pk, v = .agg #[.slice a n c, .slice b m e, .slice p k f] ∧ Seen w a n l ∧ SeenV w b m (bv' st) ∧ SeenV w p k (iv pk) ∧ n ≤ c ∧ m ≤ e ∧ k ≤ f ∧ (∀ i ∈ l, okD i) ∧ (∀ i ∈ pk, okG i) ∧
      ((d.weights Try.prog 26).all (· ≤ reachBytes) = true → n * 16 ≤ reachBytes ∧ m ≤ reachBytes ∧ k * 8 ≤ reachBytes) := by
  obtain ⟨cs, rfl, hs⟩ := okWide_struct Try.underlying26 hval
  rw [show Try.prog.cellsOf 26 = 3 by kernel_rfl] at hs
  obtain ⟨fuel, hf⟩ := hd
  obtain ⟨xs, n, _, hxx, hl', hxl, hf⟩ := DataW.trod_struct Try.underlying26 hf
  have q0 : DataW.trod enc Try.prog w base (fun _ => true) held n 22 (List.take (Try.prog.cellsOf 22) (List.drop 0 (Value.agg cs).cells.toList)) = xs[0]? := hf 0 _ rfl
  have q1 : DataW.trod enc Try.prog w base (fun _ => true) held n 23 (List.take (Try.prog.cellsOf 23) (List.drop 1 (Value.agg cs).cells.toList)) = xs[1]? := hf 1 _ rfl
  have q2 : DataW.trod enc Try.prog w base (fun _ => true) held n 24 (List.take (Try.prog.cellsOf 24) (List.drop 2 (Value.agg cs).cells.toList)) = xs[2]? := hf 2 _ rfl
  have hx1 : xs.length = 3 := hxl
  rw [List.getElem?_eq_getElem (by omega)] at q0 q1 q2
  obtain ⟨cs⟩ := cs
  match cs, hs with
  | [v0, v1, v2], _ =>
    rw [show Try.prog.cellsOf 22 = 1 by kernel_rfl] at q0
    rw [show Try.prog.cellsOf 23 = 1 by kernel_rfl] at q1
    rw [show Try.prog.cellsOf 24 = 1 by kernel_rfl] at q2
    obtain ⟨a0, n0, c0, l0, e0, hS0, ok0, le0, hle0⟩ := open_deeds q0
    obtain ⟨a1, n1, c1, l1, e1, hS1, le1, hle1⟩ := open_bools1 q1
    obtain ⟨a2, n2, c2, l2, e2, hS2, ok2, le2, hle2⟩ := open_ints1 q2
    simp [Value.cells] at e0 e1 e2
    subst e0 e1 e2
    refine ⟨a0, n0, c0, l0, a1, n1, c1, l1, a2, n2, c2, l2, rfl, hS0, hS1, hS2, le0, le1, le2, ok0, ok2, fun hall => ?_⟩
    obtain ⟨x0, x1, x2, rfl⟩ : ∃ x0 x1 x2, xs = [x0, x1, x2] := by
      clear hle0 hle1 hle2 q0 q1 q2 hf hxx
      match xs, hx1 with
      | [x0, x1, x2], _ => exact ⟨_, _, _, rfl⟩
    simp only [List.getElem_cons_succ, List.getElem_cons_zero] at hle0 hle1 hle2
    simp only [Prod.mk.injEq, List.map_cons, List.map_nil] at hxx
    obtain ⟨rfl, _⟩ := hxx
    refine ⟨?_, ?_, ?_⟩
    · rcases hle0 with h0 | ⟨elems, sp, hx, hle⟩
      · subst h0; simp [reachBytes]
      · rw [hx] at hall
        have hm := List.all_eq_true.1 hall ((elems.length + sp.length) * Try.prog.bytesOf 44) (by
          simp [DataW.weights, Try.underlying26, DataW.weightsEach, Try.underlying22])
        rw [show Try.prog.bytesOf 44 = 16 by kernel_rfl] at hm
        simp at hm
        omega
    · rcases hle1 with h0 | ⟨elems, sp, hx, hle⟩
      · subst h0; simp [reachBytes]
      · rw [hx] at hall
        have hm := List.all_eq_true.1 hall ((elems.length + sp.length) * Try.prog.bytesOf 4) (by
          simp [DataW.weights, Try.underlying26, DataW.weightsEach, Try.underlying23])
        rw [show Try.prog.bytesOf 4 = 1 by kernel_rfl] at hm
        simp at hm
        omega
    · rcases hle2 with h0 | ⟨elems, sp, hx, hle⟩
      · subst h0; simp [reachBytes]
      · rw [hx] at hall
        have hm := List.all_eq_true.1 hall ((elems.length + sp.length) * Try.prog.bytesOf 3) (by
          simp [DataW.weights, Try.underlying26, DataW.weightsEach, Try.underlying24])
        rw [show Try.prog.bytesOf 3 = 8 by kernel_rfl] at hm
        simp at hm
        omega
end
end Go.Proofs.Ytdiabpoafennlab
