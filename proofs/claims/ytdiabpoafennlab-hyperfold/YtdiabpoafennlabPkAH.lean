import Derived.Test.YtdiabpoafennlabPkAG
import Derived.Deep.Cut
import Derived.Laws.EntriesVeiled
import Derived.Test.YtdiabpoafennlabPkAA
import Derived.WalkMore
import Derived.Deep.RegionHeld3
import Derived.Deep.DeepCutAuto
/-! A reducer's play, in memory. -/
namespace Go.Proofs.Ytdiabpoafennlab
set_option linter.unusedVariables false
set_option maxRecDepth 20000
set_option linter.unusedSimpArgs false
open Go.RowKit Go.HeapKit

def dp (x : Dd) : Int × Int := (x.k, x.loc)
theorem badK_ok {k : Int} {d : Nat} (h : ¬ badK k d = true) : (k = 0 ∨ k = 1 ∨ k = 2 ∨ k = 3 ∨ k = 4) ∧ ¬ (k = 1 ∧ d = 0) := by
  unfold badK at h
  simp at h
  refine ⟨by omega, fun e => ?_⟩
  have := h.2 e.1
  omega
theorem chkL_ok {l : List Dd} {k d : Nat} {x : Dd} (hx : l[k]? = some x) (h : chkL (l.drop k) k d = none) : ¬ badK x.k d = true ∧ chkL (l.drop (k + 1)) (k + 1) (nxtK x.k d) = none := by
  rw [chkL_step hx] at h
  by_cases hb : badK x.k d = true
  · rw [if_pos hb] at h; cases h
  · rw [if_neg hb] at h; exact ⟨hb, h⟩
theorem run_step {l : List Dd} {k : Nat} {x : Dd} (hx : l[k]? = some x) (st : List Bool) (s : HS (List Int)) : s.run listK st ((l.drop k).map dp) k = (s.deed listK st k x.k x.loc).run listK st ((l.drop (k + 1)).map dp) (k + 1) := by
  obtain ⟨h1, h2⟩ := List.getElem?_eq_some_iff.1 hx
  rw [List.drop_eq_getElem_cons h1, h2]
  rfl
theorem PM.start {w : World} {base pb : Nat} {st : List Bool} {pk : List Int} {sa pa : Option Addr} {sc pc : Nat} (hb : w.heap[pb]? = some (.cells #[.func (.func 33) #[] #[], .func (.func 34) #[] #[], .func (.func 35) #[] #[], .func (.func 36) #[] #[],
    .slice sa st.length sc, .slice pa pk.length pc, .slice none 0 0, .slice none 0 0, .int .i64 0, .slice none 0 0, .slice none 0 0] 59 (0, 0))) (hl : base ≤ pb) (hA : Args w base sa pa pc st pk) :
    PM w base pb st ⟨sa, sc, pa, pc, none, 0, none, 0, none, 0, none, 0⟩ (fun _ => .slice none 0 0) (fun _ => .slice none 0 0) (fun _ => .slice none 0 0) ⟨[], [], pk, 0, [], []⟩ := by
  refine ⟨hb, hl, ⟨fun k => ?_, fun i j b _ e => by simp [Value.ownBlock] at e, row_nil _ _ _ _, row_nil _ _ _ _, fun b n c m d e => by simp [Value.ownBlock] at e⟩, ⟨row_nil _ _ _ _, fun i hi => by simp at hi, fun i j b hi => by simp at hi⟩, hA, row_nil _ _ _ _⟩
  have : Lf [] [] k = [] := by cases k <;> rfl
  rw [this]
  exact row_nil _ _ _ _
/-- The root begins. -/
theorem PM.firstTask {w w1 : World} {base pb : Nat} {st : List Bool} {X : PX} {K : Ky → Value} {H R : Nat → Value} {s : PS} (h : PM w base pb st X K H R s) (hs : s.tk = []) {x : Nat × List Nat} {V : Value} {g : Nat} (hk : Keeps None w w1) (hV : w1.ownsRow base 3 1 V x.2.length (nv x.2)) (hT : w1.ownsRow base 89 2 (.slice (some ⟨g, 0, none⟩) 1 1) 1 [.int .i64 x.1, V]) :
    PM (w1.setCell ⟨pb, 7, none⟩ (.slice (some ⟨g, 0, none⟩) 1 1)) base pb st { X with ta := some ⟨g, 0, none⟩, tc := 1 } K (fun _ => V) (fun _ => V) { s with tk := [x] } := by
  have h1 := h.more hk
  refine PM.put (c := X.cells st s) h1.blk h.low (by simp [PX.cells]) h1.vw ⟨?_, ?_, ?_⟩ h1.ar h1.mg
  · show w1.ownsRow base 89 2 (.slice (some ⟨g, 0, none⟩) 1 1) 1 ((List.range (1 * 2)).map (tkF [x] (fun _ => V)))
    have e : (List.range (1 * 2)).map (tkF [x] (fun _ => V)) = [.int .i64 x.1, V] := by simp [List.range_succ, tkF]
    rw [e]
    exact hT
  · intro i hi
    have hi0 : i = 0 := by have : i < [x].length := hi; simpa using this
    subst hi0
    exact hV
  · intro i j b hi hj hij
    have h1 : i < [x].length := hi
    have h2 : j < [x].length := hj
    simp at h1 h2
    omega
theorem own_task {w : World} {base : Nat} (a : Nat) (V : Value) (hb : base ≤ w.heap.size) : (w.alloc (.cells #[.int .i64 a, V] 89)).ownsRow base 89 2 (.slice (some ⟨w.heap.size, 0, none⟩) 1 1) 1 [.int .i64 a, V] :=
  ⟨rfl, .inr ⟨w.heap.size, 1, #[.int .i64 a, V], rfl, hb, heap_alloc_new w _, Nat.le_refl _, by unfold maxLen; omega, rfl, rfl⟩⟩
/-- What is left behind the last deed. -/
structure Left (N : Nat) (P : List Int) (ini : List (Nat × List Nat)) (m : MS (List Int)) : Prop where
  lk : Lk m.row ini
  line : LineOk (preL ini) P m
  ct : CtOk yes (preL ini) N m
  nv : m.vs.length ≤ 5000
theorem Left.next {N : Nat} {P : List Int} {t : Nat × List Nat} {ini : List (Nat × List Nat)} {m : MS (List Int)} (h : Left N P (t :: ini) m) : Left N P ini { m.all listK N with row := t.2 } := by
  have h0 : 0 < m.row.length := List.length_pos_iff.2 h.lk.ne
  obtain ⟨v, hv, hh⟩ := m.all_head listK N h0
  have hl := h.lk
  exact ⟨hl.2.2, line_back (row := []) (h.line.all N h0) hv (hl.2.1.trans hh), ct_back (h.ct.all trivial h0) hv (hl.2.1.trans hh), by show (m.all listK N).vs.length ≤ 5000; rw [vs_all]; exact h.nv⟩
theorem Left.rows {N : Nat} {P : List Int} {ini : List (Nat × List Nat)} {m : MS (List Int)} (h : Left N P ini m) : m.mg.length + m.row.length ≤ 5000 ∧ 0 < m.row.length := by
  have h1 := h.ct.mg.cnt
  rw [List.length_append] at h1
  have := h.nv
  exact ⟨by omega, List.length_pos_iff.2 h.lk.ne⟩
set_option maxHeartbeats 6400000 in
theorem play_ok (a : Option Addr) (n c : Nat) (l : List Dd) (sa : Option Addr) (sc : Nat) (st : List Bool) (pa : Option Addr) (pc : Nat) (pk : List Int) (w : World) (hS : Seen w a n l) (hT : SeenV w sa st.length (bv' st)) (hP : SeenV w pa pk.length (iv pk)) (hpc : pk.length ≤ pc) (hn : n ≤ 4096) (hst : st.length ≤ 4096) (hc : chkL l 0 0 = none) :
    Calls Try.prog 16 #[.agg #[.func (.func 33) #[] #[], .func (.func 34) #[] #[], .func (.func 35) #[] #[], .func (.func 36) #[] #[]], .slice a n c, .slice sa st.length sc, .slice pa pk.length pc] w fun e w' =>
      ∃ pb X K R, e = .returned (.pointer (some ⟨pb, 0, none⟩)) ∧ PM w' w.heap.size pb st X K R R ⟨(endMS listK st (l.map dp) pk).vs, [], (endMS listK st (l.map dp) pk).pk, (endHS listK st (l.map dp) pk).spn, (endMS listK st (l.map dp) pk).mg, (endHS listK st (l.map dp) pk).lk⟩ ∧ Keeps None w w' := by
  have HSS : Hid (Seen w a n l ∧ SeenV w sa st.length (bv' st) ∧ SeenV w pa pk.length (iv pk) ∧ pk.length ≤ pc ∧ n = l.length ∧ chkL l 0 0 = none) := ⟨hS, hT, hP, hpc, hS.len, hc⟩
  clear hS hT hP hpc hc
  go_enter Try.func16, Try.ntmps16
  go_upto_region 2 with fail
  obtain ⟨B, hB⟩ : ∃ B, B = w.heap.size := ⟨_, rfl⟩
  have hk0 := (Keeps.alloc None w (.cells #[.func (.func 33) #[] #[], .func (.func 34) #[] #[], .func (.func 35) #[] #[], .func (.func 36) #[] #[]] 55)).andAlloc (.cells #[.func (.func 33) #[] #[], .func (.func 34) #[] #[], .func (.func 35) #[] #[], .func (.func 36) #[] #[], .slice sa st.length sc, .slice pa pk.length pc, .slice none 0 0, .slice none 0 0, .int .i64 0, .slice none 0 0, .slice none 0 0] 59)
  have hb0 := blk_new (w.alloc (.cells #[.func (.func 33) #[] #[], .func (.func 34) #[] #[], .func (.func 35) #[] #[], .func (.func 36) #[] #[]] 55)) (.cells #[.func (.func 33) #[] #[], .func (.func 34) #[] #[], .func (.func 35) #[] #[], .func (.func 36) #[] #[], .slice sa st.length sc, .slice pa pk.length pc, .slice none 0 0, .slice none 0 0, .int .i64 0, .slice none 0 0, .slice none 0 0] 59) (B + 1) (by simp; omega)
  rw [← hB]
  have HB : Hid (B = w.heap.size) := hB
  generalize (w.alloc (.cells #[.func (.func 33) #[] #[], .func (.func 34) #[] #[], .func (.func 35) #[] #[], .func (.func 36) #[] #[]] 55)).alloc (.cells #[.func (.func 33) #[] #[], .func (.func 34) #[] #[], .func (.func 35) #[] #[], .func (.func 36) #[] #[], .slice sa st.length sc, .slice pa pk.length pc, .slice none 0 0, .slice none 0 0, .int .i64 0, .slice none 0 0, .slice none 0 0] 59) = wb at *
  have HP0 : Hid (PM wb B (B + 1) st ⟨sa, sc, pa, pc, none, 0, none, 0, none, 0, none, 0⟩ (fun _ => .slice none 0 0) (fun _ => .slice none 0 0) (fun _ => .slice none 0 0) ⟨[], [], pk, 0, [], []⟩ ∧ Keeps (fun i => B ≤ i) w wb) := by
    refine ⟨PM.start hb0 (by omega) ⟨HSS.out.2.1.more hk0, HSS.out.2.2.1.more hk0, fun b e h0 => ?_, fun b e h0 => ?_, HSS.out.2.2.2.1⟩, hk0.mono (fun _ f _ => f.elim)⟩
    · obtain ⟨b', off, e', hlt, _⟩ := HSS.out.2.1.ex h0
      rw [e'] at e
      simp [blockOf] at e
      omega
    · obtain ⟨b', off, e', hlt, _⟩ := HSS.out.2.2.1.ex h0
      rw [e'] at e
      simp [blockOf] at e
      omega
  clear hb0 hk0 hB
  go_wp2_with fail
  refine (newView_ok B (B + 1) st _ _ _ _ _ wb HP0.out.1 HP0.out.1.sizeLe (by simp)).mono ?_
  rintro e w2 ⟨rfl, ⟨X2, K2, hM2, hta2⟩, hk2⟩
  have hd2 := (Keeps.alloc None w2 (.cells #[.int .i64 (0 : Nat)] 3)).andAlloc (.cells #[.int .i64 (0 : Nat), .slice (some ⟨w2.heap.size, 0, none⟩) 1 1] 89)
  have ho1 := (own_one (w := w2) (base := B) 0 hM2.sizeLe).alloc (.cells #[.int .i64 (0 : Nat), .slice (some ⟨w2.heap.size, 0, none⟩) 1 1] 89)
  have ho2 := own_task (w := w2.alloc (.cells #[.int .i64 (0 : Nat)] 3)) (base := B) 0 (.slice (some ⟨w2.heap.size, 0, none⟩) 1 1) (by have := hM2.sizeLe; simp; omega)
  have hM3 := hM2.firstTask rfl (x := (0, [0])) hd2 ho1 ho2
  have f7 := (hM2.more hd2).free 7
  have z7 := (hM2.more hd2).c0.2.2.2.2.2.2.2.1
  rw [show (w2.alloc (.cells #[.int .i64 (0 : Nat)] 3)).heap.size = w2.heap.size + 1 by simp] at hM3
  simp only [Int.ofNat_zero, List.length_nil] at hM3 f7 z7 ⊢
  have hkw := (HP0.out.2.trans hk2 (fun i e _ => e)).trans hd2 (fun _ f _ => f.elim)
  simp only [Int.ofNat_zero] at hkw
  have HM3 : Hid _ := hM3
  have HKW : Hid _ := hkw
  clear hM3 hkw ho1 ho2 hd2 hk2 hM2 hta2
  go_wp2_with fail
  have HM4 : Hid ((∃ X R, PM (((w2.alloc (.cells #[.int .i64 0] 3)).alloc (.cells #[.int .i64 0, .slice (some ⟨w2.heap.size, 0, none⟩) 1 1] 89)).setCell ⟨B + 1, 7, none⟩ (.slice (some ⟨w2.heap.size + 1, 0, none⟩) 1 1)) B (B + 1) st X K2 R R (psS (HS.start listK pk))) ∧ Keeps (fun i => B ≤ i) w (((w2.alloc (.cells #[.int .i64 0] 3)).alloc (.cells #[.int .i64 0, .slice (some ⟨w2.heap.size, 0, none⟩) 1 1] 89)).setCell ⟨B + 1, 7, none⟩ (.slice (some ⟨w2.heap.size + 1, 0, none⟩) 1 1))) := ⟨⟨_, _, HM3.out⟩, HKW.out.andSet (x := ⟨B + 1, 7, none⟩) (.inl (by show B ≤ B + 1; omega)) _⟩
  generalize ((w2.alloc (.cells #[.int .i64 0] 3)).alloc (.cells #[.int .i64 0, .slice (some ⟨w2.heap.size, 0, none⟩) 1 1] 89)).setCell ⟨B + 1, 7, none⟩ (.slice (some ⟨w2.heap.size + 1, 0, none⟩) 1 1) = w4 at *
  clear f7 z7 HM3 HKW HP0
  go_loopw [10, 11, 27] (fun _ _ i wr => ∃ (k d : Nat) (s : HS (List Int)) (P : List Int) (X : PX) (K : Ky → Value) (R : Nat → Value), k ≤ n ∧ i = .int .i64 k ∧ PM wr B (B + 1) st X K R R (psS s) ∧ Okd k d P s ∧ s.run listK st ((l.drop k).map dp) k = endHS listK st (l.map dp) pk ∧ chkL (l.drop k) k d = none ∧ P ++ putsL ((l.drop k).map dp) = putsL (l.map dp) ∧ Keeps (fun i => B ≤ i) w wr) (fun _ _ i _ => n - (intOf i).toNat)
  case atStart =>
    obtain ⟨⟨X, R, h1⟩, h2⟩ := HM4.out
    exact ⟨0, 0, HS.start listK pk, [], X, K2, R, Nat.zero_le _, rfl, h1, okd_start pk, rfl, HSS.out.2.2.2.2.2, rfl, h2⟩
  case round =>
    clear HM4
    obtain ⟨k, d, s, P, X, K, R, hk, rfl, hM, hok, hrun, hchk, hput, hkp⟩ := hrel
    have hlen := HSS.out.2.2.2.2.1
    by_cases hkn : k < n
    · have hBw : w.heap.size ≤ B := by have := HB.out; omega
      obtain ⟨b, off, x, rfl, hb, hx, u0, u1⟩ := (HSS.out.1.below (hkp.mono (fun i e _ => e)) hBw).elem hkn
      obtain ⟨hbad, hchk2⟩ := chkL_ok hx hchk
      obtain ⟨hkk, hkd⟩ := badK_ok hbad
      have hi2 : (k : Int) < (n : Int) := by omega
      have HM : Hid (PM wr B (B + 1) st X K R R (psS s) ∧ Okd k d P s ∧ Keeps (fun i => B ≤ i) w wr) := ⟨hM, hok, hkp⟩
      have HN : Hid ((s.deed listK st k x.k x.loc).run listK st ((l.drop (k + 1)).map dp) (k + 1) = endHS listK st (l.map dp) pk ∧ chkL (l.drop (k + 1)) (k + 1) (nxtK x.k d) = none ∧ (P ++ if x.k = 4 then [x.loc] else []) ++ putsL ((l.drop (k + 1)).map dp) = putsL (l.map dp) ∧ (x.k = 0 ∨ x.k = 1 ∨ x.k = 2 ∨ x.k = 3 ∨ x.k = 4) ∧ ¬ (x.k = 1 ∧ d = 0)) := by
        refine ⟨by rw [← run_step hx]; exact hrun, hchk2, ?_, hkk, hkd⟩
        rw [← hput]
        obtain ⟨h1, h2⟩ := List.getElem?_eq_some_iff.1 hx
        conv => rhs; rw [List.drop_eq_getElem_cons h1, h2]
        rw [List.map_cons, putsL_cons, List.append_assoc]
        rfl
      clear hM hok hrun hchk hput hkp hlen hbad hchk2 hkk hkd hx hBw
      obtain ⟨xk, xl⟩ := x
      go_wp2_with fail
      have hkA := Keeps.alloc None wr (.cells #[.int .i64 xk, .int .i64 xl] 44)
      refine (do_any B (B + 1) k d st X K R s P _ xk xl (HM.out.1.more hkA) HM.out.2.1 (by omega) hst HN.out.2.2.2.1 HN.out.2.2.2.2).mono ?_
      rintro e w5 ⟨rfl, ⟨X5, K5, R5, hM5⟩, hk5⟩
      have HE : Hid (PM w5 B (B + 1) st X5 K5 R5 R5 (psS (s.deed listK st k xk xl)) ∧ Okd (k + 1) (nxtK xk d) (P ++ if xk = 4 then [xl] else []) (s.deed listK st k xk xl) ∧ Keeps (fun i => B ≤ i) w w5) := ⟨hM5, HM.out.2.1.deed st xk xl HN.out.2.2.2.1 HN.out.2.2.2.2, (HM.out.2.2.andAlloc _).trans hk5 (fun i e _ => e)⟩
      clear hM5 hk5 hkA
      go_wp2_with fail
      exact ⟨⟨k + 1, nxtK xk d, _, _, X5, K5, R5, by omega, by go_num, HE.out.1, HE.out.2.1, HN.out.1, HN.out.2.1, HN.out.2.2.1, HE.out.2.2⟩, by simp [intOf]; omega⟩
    · have hkn2 : k = n := by omega
      subst hkn2
      have hi2 : ¬ (k : Int) < (k : Int) := by omega
      rw [List.drop_eq_nil_of_le (by omega)] at hrun hput
      have hs : s = endHS listK st (l.map dp) pk := hrun
      have hPP : P = putsL (l.map dp) := by rw [← hput]; simp [putsL]
      have HM : Hid (PM wr B (B + 1) st X K R R (psS s) ∧ Okd k d P s ∧ Keeps (fun i => B ≤ i) w wr ∧ s = endHS listK st (l.map dp) pk ∧ k = l.length ∧ P.length ≤ 4096) := ⟨hM, hok, hkp, hs, hlen, by have := hok.np; omega⟩
      obtain ⟨tb, hta, -, -, -, -, -, -⟩ := hM.cur (tk := s.ini.reverse) (x := (s.sp, s.m.row)) rfl
      have q7 : wr.cell? ⟨B + 1, 7, none⟩ = some (.slice X.ta (s.ini.reverse ++ [(s.sp, s.m.row)]).length X.tc) := hM.c0.2.2.2.2.2.2.2.1
      have hT : (s.ini.reverse ++ [(s.sp, s.m.row)]).length = s.ini.length + 1 := by simp
      rw [hT] at q7
      obtain ⟨T, hTT⟩ : ∃ T, T = s.ini.length + 1 := ⟨_, rfl⟩
      rw [← hTT] at q7
      have HTT : Hid (T = s.ini.length + 1 ∧ T ≤ 5000) := ⟨hTT, by have := hok.ni; have := hok.nd; omega⟩
      clear hM hok hrun hchk hput hkp hlen hs hPP hta hT hTT
      go_wp2_with fail
      clear q7
      go_loopw [42] (fun i wq => ∃ (j : Nat) (X : PX) (K : Ky → Value) (R : Nat → Value) (tk : List (Nat × List Nat)) (m : MS (List Int)), i = .int .i64 j ∧ j + tk.length = T ∧ PM wq B (B + 1) st X K R R ⟨m.vs, tk, m.pk, s.spn, m.mg, s.lk⟩ ∧ Keeps (fun i => B ≤ i) w wq ∧ ((∃ sp ini, tk = ini.reverse ++ [(sp, m.row)] ∧ Left k P ini m ∧ MS.ends listK k ini m = endMS listK st (l.map dp) pk) ∨ (tk = [] ∧ m = endMS listK st (l.map dp) pk))) (fun i _ => T - (intOf i).toNat)
      case atStart =>
        refine ⟨0, X, K, R, s.ini.reverse ++ [(s.sp, s.m.row)], s.m, rfl, by simp [HTT.out.1], HM.out.1, HM.out.2.2.1, .inl ⟨s.sp, s.ini, rfl, ⟨HM.out.2.1.inv.lk, HM.out.2.1.inv.line, HM.out.2.1.ct.ct, by have := HM.out.2.1.nv; omega⟩, ?_⟩⟩
        unfold endMS
        rw [← HM.out.2.2.2.1, List.length_map, ← HM.out.2.2.2.2.1]
      case round =>
        obtain ⟨j, X6, K6, R6, tk, m, rfl, hjT, hM6, hk6, hcase⟩ := hrel
        have HEnd : Hid ((endHS listK st (l.map dp) pk).spn = s.spn ∧ (endHS listK st (l.map dp) pk).lk = s.lk) := by
          have h := HM.out.2.2.2.1
          exact ⟨by rw [← h], by rw [← h]⟩
        rcases hcase with ⟨sp, ini, rfl, hL, hends⟩ | ⟨rfl, rfl⟩
        · have hj : j < T := by rw [← hjT]; simp
          have hi5 : (j : Int) < (T : Int) := by omega
          obtain ⟨r1, r2⟩ := hL.rows
          have H6 : Hid (PM wr B (B + 1) st X6 K6 R6 R6 (psOf (psS s) ini.reverse sp m) ∧ Keeps (fun i => B ≤ i) w wr ∧ Left k P ini m ∧ MS.ends listK k ini m = endMS listK st (l.map dp) pk ∧ j + (ini.length + 1) = T) := ⟨hM6, hk6, hL, hends, by rw [← hjT]; simp⟩
          have hin : ini.length ≤ 5000 := by have := H6.out.2.2.2.2; have := HTT.out.2; omega
          clear hM6 hk6 hL hends hjT
          go_wp2_with fail
          refine (merge_ok B (B + 1) k st X6 K6 R6 (psS s) wr ini.reverse sp m (preL ini) P H6.out.1 H6.out.1.sizeLe H6.out.2.2.1.line (by have := HM.out.2.2.2.2.2; omega) r2 (by omega) (by simp; omega) (by omega)).mono ?_
          rintro e w6 ⟨rfl, ⟨X7, K7, R7, hM7⟩, hk7⟩
          have H7 : Hid (PM w6 B (B + 1) st X7 K7 R7 R7 (psOf (psS s) ini.reverse sp (m.all listK k)) ∧ Keeps (fun i => B ≤ i) w w6) := ⟨hM7, H6.out.2.1.trans hk7 (fun i e _ => e)⟩
          clear hM7 hk7
          go_wp2_with fail
          refine (end_ok B (B + 1) st X7 K7 R7 R7 _ w6 ini.reverse (sp, (m.all listK k).row) H7.out.1 rfl (by simp; omega)).mono ?_
          rintro e w7 ⟨rfl, hM8, hk8⟩
          have HE : Hid (∃ (X : PX) (K : Ky → Value) (R : Nat → Value) (tk : List (Nat × List Nat)) (m : MS (List Int)), j + 1 + tk.length = T ∧ PM w7 B (B + 1) st X K R R ⟨m.vs, tk, m.pk, s.spn, m.mg, s.lk⟩ ∧ Keeps (fun i => B ≤ i) w w7 ∧ ((∃ sp ini, tk = ini.reverse ++ [(sp, m.row)] ∧ Left k P ini m ∧ MS.ends listK k ini m = endMS listK st (l.map dp) pk) ∨ (tk = [] ∧ m = endMS listK st (l.map dp) pk))) := by
            have hkk : Keeps (fun i => B ≤ i) w w7 := H7.out.2.trans hk8 (fun i e _ => by omega)
            have hj5 := H6.out.2.2.2.2
            cases ini with
            | nil => exact ⟨X7, K7, R7, [], m.all listK k, by simp at hj5 ⊢; omega, hM8, hkk, .inr ⟨rfl, H6.out.2.2.2.1⟩⟩
            | cons t ini =>
              refine ⟨X7, K7, R7, ini.reverse ++ [(t.1, t.2)], { m.all listK k with row := t.2 }, by simp at hj5 ⊢; omega, ?_, hkk, .inl ⟨t.1, ini, rfl, H6.out.2.2.1.next, H6.out.2.2.2.1⟩⟩
              have e5 : (t :: ini).reverse = ini.reverse ++ [(t.1, t.2)] := by rw [List.reverse_cons]
              rw [e5] at hM8
              exact hM8
          clear hM8 hk8
          have hT5 := HTT.out.2
          go_wp2_with fail
          obtain ⟨X9, K9, R9, tk9, m9, h9⟩ := HE.out
          exact ⟨⟨j + 1, X9, K9, R9, tk9, m9, by go_num, h9⟩, by simp [intOf]; omega⟩
        · have hj : j = T := by rw [← hjT]; simp
          subst hj
          have hi5 : ¬ (j : Int) < (j : Int) := by omega
          have HE : Hid (PM wr B (B + 1) st X6 K6 R6 R6 ⟨(endMS listK st (l.map dp) pk).vs, [], (endMS listK st (l.map dp) pk).pk, (endHS listK st (l.map dp) pk).spn, (endMS listK st (l.map dp) pk).mg, (endHS listK st (l.map dp) pk).lk⟩ ∧ Keeps None w wr) := by
            refine ⟨by rw [HEnd.out.1, HEnd.out.2]; exact hM6, hk6.mono (fun i e hi => by have h1 := HB.out; have h2 : B ≤ i := e; omega)⟩
          clear hM6 hk6 hjT
          go_wp2_with fail
          go_ret
          rw [← HB.out]
          exact ⟨B + 1, rfl, ⟨X6, K6, R6, HE.out.1⟩, HE.out.2⟩
end Go.Proofs.Ytdiabpoafennlab
/-! The face: what is refused, and what a play tells. -/
namespace Go.Proofs.Ytdiabpoafennlab
set_option linter.unusedVariables false
set_option maxRecDepth 20000
set_option linter.unusedSimpArgs false
open Go.RowKit Go.HeapKit

def refE (l : List Dd) (st : List Bool) (pk : List Int) : Int := if l.length > 4096 ∨ st.length > 4096 ∨ pk.length > 1048576 then 2 else chkE l
theorem check_raw (a : Option Addr) (n c : Nat) (l : List Dd) (w : World) (hS : Seen w a n l) :
    Calls Try.prog 28 #[.slice a n c] w fun e w' => e = .returned (.agg #[.int .i64 (chkE l), .int .i64 (chkA l)]) ∧ Keeps None w w' := check_ok a n c l w hS
theorem field_spot (x y : Int) (w : World) : Sem.run Try.prog (Instr.field 85 (.agg #[.int .i64 x, .int .i64 y]) 0) w = .ok (.int .i64 x) w := by kernel_rfl
set_option maxHeartbeats 800000 in
theorem refused_ok (a : Option Addr) (n c : Nat) (l : List Dd) (sa : Option Addr) (m sc : Nat) (st : List Bool) (pa : Option Addr) (k pc : Nat) (pk : List Int) (w : World) (hS : Seen w a n l) (hm : m = st.length) (hk : k = pk.length) :
    Calls Try.prog 15 #[.slice a n c, .slice sa m sc, .slice pa k pc] w fun e w' => e = .returned (.int .i64 (refE l st pk)) ∧ Keeps None w w' := by
  have HS : Hid (Seen w a n l ∧ n = l.length) := ⟨hS, hS.len⟩
  have hn := hS.len
  clear hS
  by_cases h1 : 4096 < n ∨ 4096 < m
  · have h2 : (4096 : Int) < max (n : Int) (m : Int) := by omega
    have hE : refE l st pk = 2 := by unfold refE; rw [if_pos (by omega)]
    have HE : Hid (refE l st pk = 2) := hE
    clear hE hn hm hk h1
    go_enter Try.func15, Try.ntmps15
    go_wp2
    all_goals (go_ret; exact ⟨by rw [HE.out]; rfl, Keeps.refl _ _⟩)
  · have h2 : ¬ (4096 : Int) < max (n : Int) (m : Int) := by omega
    by_cases h3 : 1048576 < k
    · have h4 : (1048576 : Int) < (k : Int) := by omega
      have hE : refE l st pk = 2 := by unfold refE; rw [if_pos (by omega)]
      have HE : Hid (refE l st pk = 2) := hE
      clear hE hn hm hk h1 h3
      go_enter Try.func15, Try.ntmps15
      go_wp2
      all_goals (go_ret; exact ⟨by rw [HE.out]; rfl, Keeps.refl _ _⟩)
    · have h4 : ¬ (1048576 : Int) < (k : Int) := by omega
      have hE : refE l st pk = chkE l := by unfold refE; rw [if_neg (by omega)]
      have HE : Hid (refE l st pk = chkE l) := hE
      clear hE hn hm hk h1 h3
      go_enter Try.func15, Try.ntmps15
      go_wp2_with fail
      all_goals
        refine (check_raw a n c l w HS.out.1).mono ?_
        rintro e w1 ⟨rfl, hk1⟩
        have HK : Hid (Keeps None w w1) := hk1
        clear hk1
        rw [← HE.out]
        have hf := field_spot (refE l st pk) (chkA l) w1
        go_wp2
        go_ret
        exact ⟨rfl, HK.out⟩
theorem load_kind (w : World) (g : Nat) (t : TypeId) (v0 v1 v2 v3 : Value) (hb : w.heap[g]? = some (.cells #[v0, v1, v2, v3] t (0, 0))) : (loadVar 55 ⟨g, 0, none⟩).run Try.prog w = .ok (.agg #[v0, v1, v2, v3]) w :=
  run_loadVar_row _ g t 55 _ _ _ hb Try.underlying55 rfl (by kernel_rfl)
def finPS (l : List Dd) (st : List Bool) (pk : List Int) : PS := ⟨(endMS listK st (l.map dp) pk).vs, [], (endMS listK st (l.map dp) pk).pk, (endHS listK st (l.map dp) pk).spn, (endMS listK st (l.map dp) pk).mg, (endHS listK st (l.map dp) pk).lk⟩
theorem play_raw (a : Option Addr) (n c : Nat) (l : List Dd) (sa : Option Addr) (m sc : Nat) (st : List Bool) (pa : Option Addr) (k pc : Nat) (pk : List Int) (w : World) (hS : Seen w a n l) (hT : SeenV w sa m (bv' st)) (hP : SeenV w pa k (iv pk)) (hpc : k ≤ pc) (hE : refE l st pk = 0) :
    Calls Try.prog 16 #[.agg #[.func (.func 33) #[] #[], .func (.func 34) #[] #[], .func (.func 35) #[] #[], .func (.func 36) #[] #[]], .slice a n c, .slice sa m sc, .slice pa k pc] w fun e w' =>
      ∃ pb X K R, e = .returned (.pointer (some ⟨pb, 0, none⟩)) ∧ PM w' w.heap.size pb st X K R R (finPS l st pk) ∧ Keeps None w w' := by
  have h1 : ¬ (l.length > 4096 ∨ st.length > 4096 ∨ pk.length > 1048576) ∧ chkE l = 0 := by
    unfold refE at hE
    split at hE
    · omega
    · exact ⟨by assumption, hE⟩
  have hm := hT.len
  have hk := hP.len
  rw [bv_len] at hm
  rw [iv_len] at hk
  subst hm hk
  have hc : chkL l 0 0 = none := by
    have := h1.2
    unfold chkE at this
    rw [if_neg (by omega)] at this
    split at this
    · omega
    · assumption
  exact play_ok a n c l sa sc st pa pc pk w hS hT hP hpc (by have := hS.len; omega) (by omega) hc
theorem fin_pos (l : List Dd) (st : List Bool) (pk : List Int) (hc : ∀ d ∈ l.map dp, d.1 = 0 ∨ d.1 = 1 ∨ d.1 = 2 ∨ d.1 = 3 ∨ d.1 = 4) : 0 < (finPS l st pk).vs.length := by
  show 0 < (endMS listK st (l.map dp) pk).vs.length
  rw [made_all listK st (l.map dp) pk hc]
  omega
theorem kinds_of {l : List Dd} {i d : Nat} (h : chkL l i d = none) : KindsOk (l.map dp) := by
  induction l generalizing i d with
  | nil => intro x hx; simp at hx
  | cons x l ih =>
    unfold chkL at h
    by_cases hb : badK x.k d = true
    · rw [if_pos hb] at h; cases h
    · rw [if_neg hb] at h
      intro y hy
      rw [List.map_cons] at hy
      rcases List.mem_cons.1 hy with rfl | hy
      · exact (badK_ok hb).1
      · exact ih h y hy
theorem refE_ok {l : List Dd} {st : List Bool} {pk : List Int} (hE : refE l st pk = 0) : l.length ≤ 4096 ∧ st.length ≤ 4096 ∧ pk.length ≤ 1048576 ∧ chkL l 0 0 = none := by
  unfold refE at hE
  split at hE
  · omega
  · refine ⟨by omega, by omega, by omega, ?_⟩
    unfold chkE at hE
    rw [if_neg (by omega)] at hE
    split at hE
    · omega
    · assumption
/-- What a play has told, in memory. -/
structure Fin (w : World) (B : Nat) (X : PX) (K : Ky → Value) (s : PS) : Prop where
  vw : Vw w B X.va X.vc X.la X.lc K s.vs s.lk
  mg : w.ownsRow B 96 3 (.slice X.ma s.mg.length X.mc) s.mg.length (mgV s.mg)
theorem Fin.kept {S : Nat → Prop} {w w' : World} {B : Nat} {X : PX} {K : Ky → Value} {s : PS} (h : Fin w B X K s) (hk : Keeps S w w') (hS : ∀ i, B ≤ i → i < w.heap.size → ¬ S i) : Fin w' B X K s :=
  ⟨⟨fun k => row_kept (h.vw.rows k) hk (fun b e => hS b (row_low (h.vw.rows k) e) (own_lt (h.vw.rows k) e)), h.vw.apart, row_kept h.vw.views hk (fun b e => hS b (row_low h.vw.views e) (own_lt h.vw.views e)), row_kept h.vw.looks hk (fun b e => hS b (row_low h.vw.looks e) (own_lt h.vw.looks e)), h.vw.vl⟩, row_kept h.mg hk (fun b e => hS b (row_low h.mg e) (own_lt h.mg e))⟩
theorem Fin.more {w w' : World} {B : Nat} {X : PX} {K : Ky → Value} {s : PS} (h : Fin w B X K s) (hk : Keeps None w w') : Fin w' B X K s := h.kept hk (fun _ _ _ f => f)
theorem PM.fin {w : World} {base pb : Nat} {st : List Bool} {X : PX} {K : Ky → Value} {H R : Nat → Value} {s : PS} (h : PM w base pb st X K H R s) : Fin w base X K s := ⟨h.vw, h.mg⟩
end Go.Proofs.Ytdiabpoafennlab
/-! What is put, in the serial order: the program's Serial and the document's. -/
namespace Go.Proofs.Ytdiabpoafennlab
set_option linter.unusedVariables false
set_option maxRecDepth 20000
set_option linter.unusedSimpArgs false
open Go.RowKit Go.HeapKit

/-- What is put by deeds. -/
def putsD (l : List Dd) : List Int := (l.filter (fun d => d.k == 4)).map (·.loc)
theorem rcheck_two (a : Option Addr) (n c : Nat) (l : List Dd) (w : World) (hS : Seen w a n l) :
    Calls Try.prog 38 #[.slice a n c] w fun e w' => e = .returned (.agg #[.int .i64 (chkE l), .int .i64 (chkA l)]) ∧ Keeps None w w' := rcheck_ok a n c l w hS
end Go.Proofs.Ytdiabpoafennlab
/-! What the laws of reducers ask: may a game be played, what is put. -/
namespace Go.Proofs.Ytdiabpoafennlab
set_option linter.unusedVariables false
set_option maxRecDepth 20000
set_option linter.unusedSimpArgs false
open Go.RowKit Go.HeapKit

end Go.Proofs.Ytdiabpoafennlab
