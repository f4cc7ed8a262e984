import Derived.Test.YtdiabpoafennlabPkAG
import Derived.Deep.Cut
import Derived.Laws.EntriesVeiled
import Derived.Test.YtdiabpoafennlabPkAA
import Derived.WalkMore
import Derived.Deep.RegionHeld3
import Derived.Deep.DeepCutAuto
/-! A reducer's play, in memory. -/
namespace Go.Proofs.Ytdiabpoafennlab
set_option linter.unusedVariables false
set_option maxRecDepth 20000
set_option linter.unusedSimpArgs false
open Go.RowKit Go.HeapKit

def dp (x : Dd) : Int × Int := (x.k, x.loc)
theorem badK_ok {k : Int} {d : Nat} (h : ¬ badK k d = true) : (k = 0 ∨ k = 1 ∨ k = 2 ∨ k = 3 ∨ k = 4) ∧ ¬ (k = 1 ∧ d = 0) := by
  unfold badK at h
  simp at h
  refine ⟨by omega, fun e => ?_⟩
  have := h.2 e.1
  omega
theorem chkL_ok {l : List Dd} {k d : Nat} {x : Dd} (hx : l[k]? = some x) (h : chkL (l.drop k) k d = none) : ¬ badK x.k d = true ∧ chkL (l.drop (k + 1)) (k + 1) (nxtK x.k d) = none := by
  rw [chkL_step hx] at h
  by_cases hb : badK x.k d = true
  · rw [if_pos hb] at h; cases h
  · rw [if_neg hb] at h; exact ⟨hb, h⟩
theorem run_step {l : List Dd} {k : Nat} {x : Dd} (hx : l[k]? = some x) (st : List Bool) (s : HS (List Int)) : s.run listK st ((l.drop k).map dp) k = (s.deed listK st k x.k x.loc).run listK st ((l.drop (k + 1)).map dp) (k + 1) := by
  obtain ⟨h1, h2⟩ := List.getElem?_eq_some_iff.1 hx
  rw [List.drop_eq_getElem_cons h1, h2]
  rfl
theorem PM.start {w : World} {base pb : Nat} {st : List Bool} {pk : List Int} {sa pa : Option Addr} {sc pc : Nat} (hb : w.heap[pb]? = some (.cells #[.func (.func 33) #[] #[], .func (.func 34) #[] #[], .func (.func 35) #[] #[], .func (.func 36) #[] #[],
    .slice sa st.length sc, .slice pa pk.length pc, .slice none 0 0, .slice none 0 0, .int .i64 0, .slice none 0 0, .slice none 0 0] 59 (0, 0))) (hl : base ≤ pb) (hA : Args w base sa pa pc st pk) :
    PM w base pb st ⟨sa, sc, pa, pc, none, 0, none, 0, none, 0, none, 0⟩ (fun _ => .slice none 0 0) (fun _ => .slice none 0 0) (fun _ => .slice none 0 0) ⟨[], [], pk, 0, [], []⟩ := by
  refine ⟨hb, hl, ⟨fun k => ?_, fun i j b _ e => by simp [Value.ownBlock] at e, row_nil _ _ _ _, row_nil _ _ _ _, fun b n c m d e => by simp [Value.ownBlock] at e⟩, ⟨row_nil _ _ _ _, fun i hi => by simp at hi, fun i j b hi => by simp at hi⟩, hA, row_nil _ _ _ _⟩
  have : Lf [] [] k = [] := by cases k <;> rfl
  rw [this]
  exact row_nil _ _ _ _
/-- The root begins. -/
theorem PM.firstTask {w w1 : World} {base pb : Nat} {st : List Bool} {X : PX} {K : Ky → Value} {H R : Nat → Value} {s : PS} (h : PM w base pb st X K H R s) (hs : s.tk = []) {x : Nat × List Nat} {V : Value} {g : Nat} (hk : Keeps None w w1) (hV : w1.ownsRow base 3 1 V x.2.length (nv x.2)) (hT : w1.ownsRow base 89 2 (.slice (some ⟨g, 0, none⟩) 1 1) 1 [.int .i64 x.1, V]) :
    PM (w1.setCell ⟨pb, 7, none⟩ (.slice (some ⟨g, 0, none⟩) 1 1)) base pb st { X with ta := some ⟨g, 0, none⟩, tc := 1 } K (fun _ => V) (fun _ => V) { s with tk := [x] } := by
  have h1 := h.more hk
  refine PM.put (c := X.cells st s) h1.blk h.low (by simp [PX.cells]) h1.vw ⟨?_, ?_, ?_⟩ h1.ar h1.mg
  · show w1.ownsRow base 89 2 (.slice (some ⟨g, 0, none⟩) 1 1) 1 ((List.range (1 * 2)).map (tkF [x] (fun _ => V)))
    have e : (List.range (1 * 2)).map (tkF [x] (fun _ => V)) = [.int .i64 x.1, V] := by simp [List.range_succ, tkF]
    rw [e]
    exact hT
  · intro i hi
    have hi0 : i = 0 := by have : i < [x].length := hi; simpa using this
    subst hi0
    exact hV
  · intro i j b hi hj hij
    have h1 : i < [x].length := hi
    have h2 : j < [x].length := hj
    simp at h1 h2
    omega
theorem own_task {w : World} {base : Nat} (a : Nat) (V : Value) (hb : base ≤ w.heap.size) : (w.alloc (.cells #[.int .i64 a, V] 89)).ownsRow base 89 2 (.slice (some ⟨w.heap.size, 0, none⟩) 1 1) 1 [.int .i64 a, V] :=
  ⟨rfl, .inr ⟨w.heap.size, 1, #[.int .i64 a, V], rfl, hb, heap_alloc_new w _, Nat.le_refl _, by unfold maxLen; omega, rfl, rfl⟩⟩
/-- What is left behind the last deed. -/
structure Left (N : Nat) (P : List Int) (ini : List (Nat × List Nat)) (m : MS (List Int)) : Prop where
  lk : Lk m.row ini
  line : LineOk (preL ini) P m
  ct : CtOk yes (preL ini) N m
  nv : m.vs.length ≤ 5000
theorem Left.next {N : Nat} {P : List Int} {t : Nat × List Nat} {ini : List (Nat × List Nat)} {m : MS (List Int)} (h : Left N P (t :: ini) m) : Left N P ini { m.all listK N with row := t.2 } := by
  have h0 : 0 < m.row.length := List.length_pos_iff.2 h.lk.ne
  obtain ⟨v, hv, hh⟩ := m.all_head listK N h0
  have hl := h.lk
  exact ⟨hl.2.2, line_back (row := []) (h.line.all N h0) hv (hl.2.1.trans hh), ct_back (h.ct.all trivial h0) hv (hl.2.1.trans hh), by show (m.all listK N).vs.length ≤ 5000; rw [vs_all]; exact h.nv⟩
theorem Left.rows {N : Nat} {P : List Int} {ini : List (Nat × List Nat)} {m : MS (List Int)} (h : Left N P ini m) : m.mg.length + m.row.length ≤ 5000 ∧ 0 < m.row.length := by
  have h1 := h.ct.mg.cnt
  rw [List.length_append] at h1
  have := h.nv
  exact ⟨by omega, List.length_pos_iff.2 h.lk.ne⟩
set_option maxHeartbeats 6400000 in
theorem play_ok (a : Option Addr) (n c : Nat) (l : List Dd) (sa : Option Addr) (sc : Nat) (st : List Bool) (pa : Option Addr) (pc : Nat) (pk : List Int) (w : World) (hS : Seen w a n l) (hT : SeenV w sa st.length (bv' st)) (hP : SeenV w pa pk.length (iv pk)) (hpc : pk.length ≤ pc) (hn : n ≤ 4096) (hst : st.length ≤ 4096) (hc : chkL l 0 0 = none) :
    Calls Try.prog 16 #[.agg #[.func (.func 33) #[] #[], .func (.func 34) #[] #[], .func (.func 35) #[] #[], .func (.func 36) #[] #[]], .slice a n c, .slice sa st.length sc, .slice pa pk.length pc] w fun e w' =>
      ∃ pb X K R, e = .returned (.pointer (some ⟨pb, 0, none⟩)) ∧ PM w' w.heap.size pb st X K R R ⟨(endMS listK st (l.map dp) pk).vs, [], (endMS listK st (l.map dp) pk).pk, (endHS listK st (l.map dp) pk).spn, (endMS listK st (l.map dp) pk).mg, (endHS listK st (l.map dp) pk).lk⟩ ∧ Keeps None w w' := by
  have HSS : Hid (Seen w a n l ∧ SeenV w sa st.length (bv' st) ∧ SeenV w pa pk.length (iv pk) ∧ pk.length ≤ pc ∧ n = l.length ∧ chkL l 0 0 = none) := ⟨hS, hT, hP, hpc, hS.len, hc⟩
  clear hS hT hP hpc hc
  go_enter Try.func16, Try.ntmps16
  go_upto_region 2 with fail
  obtain ⟨B, hB⟩ : ∃ B, B = w.heap.size := ⟨_, rfl⟩
  have hk0 := (Keeps.alloc None w (.cells #[.func (.func 33) #[] #[], .func (.func 34) #[] #[], .func (.func 35) #[] #[], .func (.func 36) #[] #[]] 55)).andAlloc (.cells #[.func (.func 33) #[] #[], .func (.func 34) #[] #[], .func (.func 35) #[] #[], .func (.func 36) #[] #[], .slice sa st.length sc, .slice pa pk.length pc, .slice none 0 0, .slice none 0 0, .int .i64 0, .slice none 0 0, .slice none 0 0] 59)
  have hb0 := blk_new (w.alloc (.cells #[.func (.func 33) #[] #[], .func (.func 34) #[] #[], .func (.func 35) #[] #[], .func (.func 36) #[] #[]] 55)) (.cells #[.func (.func 33) #[] #[], .func (.func 34) #[] #[], .func (.func 35) #[] #[], .func (.func 36) #[] #[], .slice sa st.length sc, .slice pa pk.length pc, .slice none 0 0, .slice none 0 0, .int .i64 0, .slice none 0 0, .slice none 0 0] 59) (B + 1) (by simp; omega)
  rw [← hB]
  have HB : Hid (B = w.heap.size) := hB
  generalize (w.alloc (.cells #[.func (.func 33) #[] #[], .func (.func 34) #[] #[], .func (.func 35) #[] #[], .func (.func 36) #[] #[]] 55)).alloc (.cells #[.func (.func 33) #[] #[], .func (.func 34) #[] #[], .func (.func 35) #[] #[], .func (.func 36) #[] #[], .slice sa st.length sc, .slice pa pk.length pc, .slice none 0 0, .slice none 0 0, .int .i64 0, .slice none 0 0, .slice none 0 0] 59) = wb at *
  have HP0 : Hid (PM wb B (B + 1) st ⟨sa, sc, pa, pc, none, 0, none, 0, none, 0, none, 0⟩ (fun _ => .slice none 0 0) (fun _ => .slice none 0 0) (fun _ => .slice none 0 0) ⟨[], [], pk, 0, [], []⟩ ∧ Keeps (fun i => B ≤ i) w wb) := by
    refine ⟨PM.start hb0 (by omega) ⟨HSS.out.2.1.more hk0, HSS.out.2.2.1.more hk0, fun b e h0 => ?_, fun b e h0 => ?_, HSS.out.2.2.2.1⟩, hk0.mono (fun _ f _ => f.elim)⟩
    · obtain ⟨b', off, e', hlt, _⟩ := HSS.out.2.1.ex h0
      rw [e'] at e
      simp [blockOf] at e
      omega
    · obtain ⟨b', off, e', hlt, _⟩ := HSS.out.2.2.1.ex h0
      rw [e'] at e
      simp [blockOf] at e
      omega
  clear hb0 hk0 hB
  go_wp2_with fail
  refine (newView_ok B (B + 1) st _ _ _ _ _ wb HP0.out.1 HP0.out.1.sizeLe (by simp)).mono ?_
  rintro e w2 ⟨rfl, ⟨X2, K2, hM2, hta2⟩, hk2⟩
  have hd2 := (Keeps.alloc None w2 (.cells #[.int .i64 (0 : Nat)] 3)).andAlloc (.cells #[.int .i64 (0 : Nat), .slice (some ⟨w2.heap.size, 0, none⟩) 1 1] 89)
  have ho1 := (own_one (w := w2) (base := B) 0 hM2.sizeLe).alloc (.cells #[.int .i64 (0 : Nat), .slice (some ⟨w2.heap.size, 0, none⟩) 1 1] 89)
  have ho2 := own_task (w := w2.alloc (.cells #[.int .i64 (0 : Nat)] 3)) (base := B) 0 (.slice (some ⟨w2.heap.size, 0, none⟩) 1 1) (by have := hM2.sizeLe; simp; omega)
  have hM3 := hM2.firstTask rfl (x := (0, [0])) hd2 ho1 ho2
  have f7 := (hM2.more hd2).free 7
  have z7 := (hM2.more hd2).c0.2.2.2.2.2.2.2.1
  rw [show (w2.alloc (.cells #[.int .i64 (0 : Nat)] 3)).heap.size = w2.heap.size + 1 by simp] at hM3
  simp only [Int.ofNat_zero, List.length_nil] at hM3 f7 z7 ⊢
  have hkw := (HP0.out.2.trans hk2 (fun i e _ => e)).trans hd2 (fun _ f _ => f.elim)
  simp only [Int.ofNat_zero] at hkw
  have HM3 : Hid _ := hM3
  have HKW : Hid _ := hkw
  clear hM3 hkw ho1 ho2 hd2 hk2 hM2 hta2
  go_wp2_with fail
  have HM4 : Hid ((∃ X R, PM (((w2.alloc (.cells #[.int .i64 0] 3)).alloc (.cells #[.int .i64 0, .slice (some ⟨w2.heap.size, 0, none⟩) 1 1] 89)).setCell ⟨B + 1, 7, none⟩ (.slice (some ⟨w2.heap.size + 1, 0, none⟩) 1 1)) B (B + 1) st X K2 R R (psS (HS.start listK pk))) ∧ Keeps (fun i => B ≤ i) w (((w2.alloc (.cells #[.int .i64 0] 3)).alloc (.cells #[.int .i64 0, .slice (some ⟨w2.heap.size, 0, none⟩) 1 1] 89)).setCell ⟨B + 1, 7, none⟩ (.slice (some ⟨w2.heap.size + 1, 0, none⟩) 1 1))) := ⟨⟨_, _, HM3.out⟩, HKW.out.andSet (x := ⟨B + 1, 7, none⟩) (.inl (by show B ≤ B + 1; omega)) _⟩
  generalize ((w2.alloc (.cells #[.int .i64 0] 3)).alloc (.cells #[.int .i64 0, .slice (some ⟨w2.heap.size, 0, none⟩) 1 1] 89)).setCell ⟨B + 1, 7, none⟩ (.slice (some ⟨w2.heap.size + 1, 0, none⟩) 1 1) = w4 at *
  clear f7 z7 HM3 HKW HP0
  go_loopw [10, 11, 27] (fun _ _ i wr => ∃ (k d : Nat) (s : HS (List Int)) (P : List Int) (X : PX) (K : Ky → Value) (R : Nat → Value), k ≤ n ∧ i = .int .i64 k ∧ PM wr B (B + 1) st X K R R (psS s) ∧ Okd k d P s ∧ s.run listK st ((l.drop k).map dp) k = endHS listK st (l.map dp) pk ∧ chkL (l.drop k) k d = none ∧ P ++ putsL ((l.drop k).map dp) = putsL (l.map dp) ∧ Keeps (fun i => B ≤ i) w wr) (fun _ _ i _ => n - (intOf i).toNat)
  case atStart =>
    obtain ⟨⟨X, R, h1⟩, h2⟩ := HM4.out
    exact ⟨0, 0, HS.start listK pk, [], X, K2, R, Nat.zero_le _, rfl, h1, okd_start pk, rfl, HSS.out.2.2.2.2.2, rfl, h2⟩
  case round =>
    clear HM4
    obtain ⟨k, d, s, P, X, K, R, hk, rfl, hM, hok, hrun, hchk, hput, hkp⟩ := hrel
    have hlen := HSS.out.2.2.2.2.1
    by_cases hkn : k < n
    · have hBw : w.heap.size ≤ B := by have := HB.out; omega
      obtain ⟨b, off, x, rfl, hb, hx, u0, u1⟩ := (HSS.out.1.below (hkp.mono (fun i e _ => e)) hBw).elem hkn
      obtain ⟨hbad, hchk2⟩ := chkL_ok hx hchk
      obtain ⟨hkk, hkd⟩ := badK_ok hbad
      have hi2 : (k : Int) < (n : Int) := by omega
      have HM : Hid (PM wr B (B + 1) st X K R R (psS s) ∧ Okd k d P s ∧ Keeps (fun i => B ≤ i) w wr) := ⟨hM, hok, hkp⟩
      have HN : Hid ((s.deed listK st k x.k x.loc).run listK st ((l.drop (k + 1)).map dp) (k + 1) = endHS listK st (l.map dp) pk ∧ chkL (l.drop (k + 1)) (k + 1) (nxtK x.k d) = none ∧ (P ++ if x.k = 4 then [x.loc] else []) ++ putsL ((l.drop (k + 1)).map dp) = putsL (l.map dp) ∧ (x.k = 0 ∨ x.k = 1 ∨ x.k = 2 ∨ x.k = 3 ∨ x.k = 4) ∧ ¬ (x.k = 1 ∧ d = 0)) := by
        refine ⟨by rw [← run_step hx]; exact hrun, hchk2, ?_, hkk, hkd⟩
        rw [← hput]
        obtain ⟨h1, h2⟩ := List.getElem?_eq_some_iff.1 hx
        conv => rhs; rw [List.drop_eq_getElem_cons h1, h2]
        rw [List.map_cons, putsL_cons, List.append_assoc]
        rfl
      clear hM hok hrun hchk hput hkp hlen hbad hchk2 hkk hkd hx hBw
      obtain ⟨xk, xl⟩ := x
      go_wp2_with fail
      have hkA := Keeps.alloc None wr (.cells #[.int .i64 xk, .int .i64 xl] 44)
      refine (do_any B (B + 1) k d st X K R s P _ xk xl (HM.out.1.more hkA) HM.out.2.1 (by omega) hst HN.out.2.2.2.1 HN.out.2.2.2.2).mono ?_
      rintro e w5 ⟨rfl, ⟨X5, K5, R5, hM5⟩, hk5⟩
      have HE : Hid (PM w5 B (B + 1) st X5 K5 R5 R5 (psS (s.deed listK st k xk xl)) ∧ Okd (k + 1) (nxtK xk d) (P ++ if xk = 4 then [xl] else []) (s.deed listK st k xk xl) ∧ Keeps (fun i => B ≤ i) w w5) := ⟨hM5, HM.out.2.1.deed st xk xl HN.out.2.2.2.1 HN.out.2.2.2.2, (HM.out.2.2.andAlloc _).trans hk5 (fun i e _ => e)⟩
      clear hM5 hk5 hkA
      go_wp2_with fail
      exact ⟨⟨k + 1, nxtK xk d, _, _, X5, K5, R5, by omega, by go_num, HE.out.1, HE.out.2.1, HN.out.1, HN.out.2.1, HN.out.2.2.1, HE.out.2.2⟩, by simp [intOf]; omega⟩
    · have hkn2 : k = n := by omega
      subst hkn2
      have hi2 : ¬ (k : Int) < (k : Int) := by omega
      rw [List.drop_eq_nil_of_le (by omega)] at hrun hput
      have hs : s = endHS listK st (l.map dp) pk := hrun
      have hPP : P = putsL (l.map dp) := by rw [← hput]; simp [putsL]
      have HM : Hid (PM wr B (B + 1) st X K R R (psS s) ∧ Okd k d P s ∧ Keeps (fun i => B ≤ i) w wr ∧ s = endHS listK st (l.map dp) pk ∧ k = l.length ∧ P.length ≤ 4096) := ⟨hM, hok, hkp, hs, hlen, by have := hok.np; omega⟩
      obtain ⟨tb, hta, -, -, -, -, -, -⟩ := hM.cur (tk := s.ini.reverse) (x := (s.sp, s.m.row)) rfl
      have q7 : wr.cell? ⟨B + 1, 7, none⟩ = some (.slice X.ta (s.ini.reverse ++ [(s.sp, s.m.row)]).length X.tc) := hM.c0.2.2.2.2.2.2.2.1
      have hT : (s.ini.reverse ++ [(s.sp, s.m.row)]).length = s.ini.length + 1 := by simp
      rw [hT] at q7
      obtain ⟨T, hTT⟩ : ∃ T, T = s.ini.length + 1 := ⟨_, rfl⟩
      rw [← hTT] at q7
      have HTT : Hid (T = s.ini.length + 1 ∧ T ≤ 5000) := ⟨hTT, by have := hok.ni; have := hok.nd; omega⟩
      clear hM hok hrun hchk hput hkp hlen hs hPP hta hT hTT
      go_wp2_with fail
      clear q7
      go_loopw [42] (fun i wq => ∃ (j : Nat) (X : PX) (K : Ky → Value) (R : Nat → Value) (tk : List (Nat × List Nat)) (m : MS (List Int)), i = .int .i64 j ∧ j + tk.length = T ∧ PM wq B (B + 1) st X K R R ⟨m.vs, tk, m.pk, s.spn, m.mg, s.lk⟩ ∧ Keeps (fun i => B ≤ i) w wq ∧ ((∃ sp ini, tk = ini.reverse ++ [(sp, m.row)] ∧ Left k P ini m ∧ MS.ends listK k ini m = endMS listK st (l.map dp) pk) ∨ (tk = [] ∧ m = endMS listK st (l.map dp) pk))) (fun i _ => T - (intOf i).toNat)
      case atStart =>
        refine ⟨0, X, K, R, s.ini.reverse ++ [(s.sp, s.m.row)], s.m, rfl, by simp [HTT.out.1], HM.out.1, HM.out.2.2.1, .inl ⟨s.sp, s.ini, rfl, ⟨HM.out.2.1.inv.lk, HM.out.2.1.inv.line, HM.out.2.1.ct.ct, by have := HM.out.2.1.nv; omega⟩, ?_⟩⟩
        unfold endMS
        rw [← HM.out.2.2.2.1, List.length_map, ← HM.out.2.2.2.2.1]
      case round =>
        obtain ⟨j, X6, K6, R6, tk, m, rfl, hjT, hM6, hk6, hcase⟩ := hrel
        have HEnd : Hid ((endHS listK st (l.map dp) pk).spn = s.spn ∧ (endHS listK st (l.map dp) pk).lk = s.lk) := by
          have h := HM.out.2.2.2.1
          exact ⟨by rw [← h], by rw [← h]⟩
        rcases hcase with ⟨sp, ini, rfl, hL, hends⟩ | ⟨rfl, rfl⟩
        · have hj : j < T := by rw [← hjT]; simp
          have hi5 : (j : Int) < (T : Int) := by omega
          obtain ⟨r1, r2⟩ := hL.rows
          have H6 : Hid (PM wr B (B + 1) st X6 K6 R6 R6 (psOf (psS s) ini.reverse sp m) ∧ Keeps (fun i => B ≤ i) w wr ∧ Left k P ini m ∧ MS.ends listK k ini m = endMS listK st (l.map dp) pk ∧ j + (ini.length + 1) = T) := ⟨hM6, hk6, hL, hends, by rw [← hjT]; simp⟩
          have hin : ini.length ≤ 5000 := by have := H6.out.2.2.2.2; have := HTT.out.2; omega
          clear hM6 hk6 hL hends hjT
          go_wp2_with fail
          refine (merge_ok B (B + 1) k st X6 K6 R6 (psS s) wr ini.reverse sp m (preL ini) P H6.out.1 H6.out.1.sizeLe H6.out.2.2.1.line (by have := HM.out.2.2.2.2.2; omega) r2 (by omega) (by simp; omega) (by omega)).mono ?_
          rintro e w6 ⟨rfl, ⟨X7, K7, R7, hM7⟩, hk7⟩
          have H7 : Hid (PM w6 B (B + 1) st X7 K7 R7 R7 (psOf (psS s) ini.reverse sp (m.all listK k)) ∧ Keeps (fun i => B ≤ i) w w6) := ⟨hM7, H6.out.2.1.trans hk7 (fun i e _ => e)⟩
          clear hM7 hk7
          go_wp2_with fail
          refine (end_ok B (B + 1) st X7 K7 R7 R7 _ w6 ini.reverse (sp, (m.all listK k).row) H7.out.1 rfl (by simp; omega)).mono ?_
          rintro e w7 ⟨rfl, hM8, hk8⟩
          have HE : Hid (∃ (X : PX) (K : Ky → Value) (R : Nat → Value) (tk : List (Nat × List Nat)) (m : MS (List Int)), j + 1 + tk.length = T ∧ PM w7 B (B + 1) st X K R R ⟨m.vs, tk, m.pk, s.spn, m.mg, s.lk⟩ ∧ Keeps (fun i => B ≤ i) w w7 ∧ ((∃ sp ini, tk = ini.reverse ++ [(sp, m.row)] ∧ Left k P ini m ∧ MS.ends listK k ini m = endMS listK st (l.map dp) pk) ∨ (tk = [] ∧ m = endMS listK st (l.map dp) pk))) := by
            have hkk : Keeps (fun i => B ≤ i) w w7 := H7.out.2.trans hk8 (fun i e _ => by omega)
            have hj5 := H6.out.2.2.2.2
            cases ini with
            | nil => exact ⟨X7, K7, R7, [], m.all listK k, by simp at hj5 ⊢; omega, hM8, hkk, .inr ⟨rfl, H6.out.2.2.2.1⟩⟩
            | cons t ini =>
              refine ⟨X7, K7, R7, ini.reverse ++ [(t.1, t.2)], { m.all listK k with row := t.2 }, by simp at hj5 ⊢; omega, ?_, hkk, .inl ⟨t.1, ini, rfl, H6.out.2.2.1.next, H6.out.2.2.2.1⟩⟩
              have e5 : (t :: ini).reverse = ini.reverse ++ [(t.1, t.2)] := by rw [List.reverse_cons]
              rw [e5] at hM8
              exact hM8
          clear hM8 hk8
          have hT5 := HTT.out.2
          go_wp2_with fail
          obtain ⟨X9, K9, R9, tk9, m9, h9⟩ := HE.out
          exact ⟨⟨j + 1, X9, K9, R9, tk9, m9, by go_num, h9⟩, by simp [intOf]; omega⟩
        · have hj : j = T := by rw [← hjT]; simp
          subst hj
          have hi5 : ¬ (j : Int) < (j : Int) := by omega
          have HE : Hid (PM wr B (B + 1) st X6 K6 R6 R6 ⟨(endMS listK st (l.map dp) pk).vs, [], (endMS listK st (l.map dp) pk).pk, (endHS listK st (l.map dp) pk).spn, (endMS listK st (l.map dp) pk).mg, (endHS listK st (l.map dp) pk).lk⟩ ∧ Keeps None w wr) := by
            refine ⟨by rw [HEnd.out.1, HEnd.out.2]; exact hM6, hk6.mono (fun i e hi => by have h1 := HB.out; have h2 : B ≤ i := e; omega)⟩
          clear hM6 hk6 hjT
          go_wp2_with fail
          go_ret
          rw [← HB.out]
          exact ⟨B + 1, rfl, ⟨X6, K6, R6, HE.out.1⟩, HE.out.2⟩
end Go.Proofs.Ytdiabpoafennlab
/-! The face: what is refused, and what a play tells. -/
namespace Go.Proofs.Ytdiabpoafennlab
set_option linter.unusedVariables false
set_option maxRecDepth 20000
set_option linter.unusedSimpArgs false
open Go.RowKit Go.HeapKit

def refE (l : List Dd) (st : List Bool) (pk : List Int) : Int := if l.length > 4096 ∨ st.length > 4096 ∨ pk.length > 1048576 then 2 else chkE l
theorem check_raw (a : Option Addr) (n c : Nat) (l : List Dd) (w : World) (hS : Seen w a n l) :
    Calls Try.prog 28 #[.slice a n c] w fun e w' => e = .returned (.agg #[.int .i64 (chkE l), .int .i64 (chkA l)]) ∧ Keeps None w w' := check_ok a n c l w hS
theorem field_spot (x y : Int) (w : World) : Sem.run Try.prog (Instr.field 85 (.agg #[.int .i64 x, .int .i64 y]) 0) w = .ok (.int .i64 x) w := by kernel_rfl
set_option maxHeartbeats 800000 in
theorem refused_ok (a : Option Addr) (n c : Nat) (l : List Dd) (sa : Option Addr) (m sc : Nat) (st : List Bool) (pa : Option Addr) (k pc : Nat) (pk : List Int) (w : World) (hS : Seen w a n l) (hm : m = st.length) (hk : k = pk.length) :
    Calls Try.prog 15 #[.slice a n c, .slice sa m sc, .slice pa k pc] w fun e w' => e = .returned (.int .i64 (refE l st pk)) ∧ Keeps None w w' := by
  have HS : Hid (Seen w a n l ∧ n = l.length) := ⟨hS, hS.len⟩
  have hn := hS.len
  clear hS
  by_cases h1 : 4096 < n ∨ 4096 < m
  · have h2 : (4096 : Int) < max (n : Int) (m : Int) := by omega
    have hE : refE l st pk = 2 := by unfold refE; rw [if_pos (by omega)]
    have HE : Hid (refE l st pk = 2) := hE
    clear hE hn hm hk h1
    go_enter Try.func15, Try.ntmps15
    go_wp2
    all_goals (go_ret; exact ⟨by rw [HE.out]; rfl, Keeps.refl _ _⟩)
  · have h2 : ¬ (4096 : Int) < max (n : Int) (m : Int) := by omega
    by_cases h3 : 1048576 < k
    · have h4 : (1048576 : Int) < (k : Int) := by omega
      have hE : refE l st pk = 2 := by unfold refE; rw [if_pos (by omega)]
      have HE : Hid (refE l st pk = 2) := hE
      clear hE hn hm hk h1 h3
      go_enter Try.func15, Try.ntmps15
      go_wp2
      all_goals (go_ret; exact ⟨by rw [HE.out]; rfl, Keeps.refl _ _⟩)
    · have h4 : ¬ (1048576 : Int) < (k : Int) := by omega
      have hE : refE l st pk = chkE l := by unfold refE; rw [if_neg (by omega)]
      have HE : Hid (refE l st pk = chkE l) := hE
      clear hE hn hm hk h1 h3
      go_enter Try.func15, Try.ntmps15
      go_wp2_with fail
      all_goals
        refine (check_raw a n c l w HS.out.1).mono ?_
        rintro e w1 ⟨rfl, hk1⟩
        have HK : Hid (Keeps None w w1) := hk1
        clear hk1
        rw [← HE.out]
        have hf := field_spot (refE l st pk) (chkA l) w1
        go_wp2
        go_ret
        exact ⟨rfl, HK.out⟩
theorem set_four {w1 : World} {g : Nat} {c : Array Value} {t : TypeId} (hc : c.size = 4) (hb : w1.heap[g]? = some (.cells c t (0, 0))) (v0 v1 v2 v3 : Value) :
    ((((w1.setCell ⟨g, 0, none⟩ v0).setCell ⟨g, 1, none⟩ v1).setCell ⟨g, 2, none⟩ v2).setCell ⟨g, 3, none⟩ v3).heap[g]? = some (.cells #[v0, v1, v2, v3] t (0, 0)) ∧ Keeps (· = g) w1 ((((w1.setCell ⟨g, 0, none⟩ v0).setCell ⟨g, 1, none⟩ v1).setCell ⟨g, 2, none⟩ v2).setCell ⟨g, 3, none⟩ v3) := by
  refine ⟨?_, (((keeps_one (g := g) (Keeps.refl _ _) _).andSet (x := ⟨g, 1, none⟩) (.inl rfl) _).andSet (x := ⟨g, 2, none⟩) (.inl rfl) _).andSet (x := ⟨g, 3, none⟩) (.inl rfl) _⟩
  rw [blk_set (blk_set (blk_set (blk_set hb v0) v1) v2) v3]
  obtain ⟨l⟩ := c
  match l, hc with
  | [_, _, _, _], _ => rfl
theorem load_kind (w : World) (g : Nat) (t : TypeId) (v0 v1 v2 v3 : Value) (hb : w.heap[g]? = some (.cells #[v0, v1, v2, v3] t (0, 0))) : (loadVar 55 ⟨g, 0, none⟩).run Try.prog w = .ok (.agg #[v0, v1, v2, v3]) w :=
  run_loadVar_row _ g t 55 _ _ _ hb Try.underlying55 rfl (by kernel_rfl)
theorem load_views (w : World) (g : Nat) (t : TypeId) (v0 v1 v2 v3 : Value) (hb : w.heap[g]? = some (.cells #[v0, v1, v2, v3] t (0, 0))) : (loadVar 32 ⟨g, 0, none⟩).run Try.prog w = .ok (.agg #[v0, v1, v2, v3]) w :=
  run_loadVar_row _ g t 32 _ _ _ hb Try.underlying32 rfl (by kernel_rfl)
theorem results_two {P : Program} {fn : Func} {q r : Tmp} {ty : TypeId} (h : fn.results = #[.cell q ty, .tmp r]) {tmps : Array Value} {w : World} {g : Nat} (ha : tmps.getD q undef = .pointer (some ⟨g, 0, none⟩)) {v u : Value} (hr : tmps.getD r undef = u)
    (hl : (loadVar ty ⟨g, 0, none⟩).run P w = .ok v w) : (results fn tmps).run P w = .ok (.tuple #[v, u]) w := by
  have ha' : tmps[q]?.getD undef = .pointer (some ⟨g, 0, none⟩) := by simpa using ha
  have hr' : tmps[r]?.getD undef = u := by simpa using hr
  simp [results, h, ha', hr', asAddr, hl]
/-- How Play ends. -/
theorem views_end {Q : Ending → World → Prop} {a : Act} {w1 : World} {g : Nat} {c : Array Value} {t : TypeId} {fn : Func} {u : Value} (q r : Tmp) (hfn : fn.results = #[.cell q 32, .tmp r]) (hc : c.size = 4) (hb : w1.heap[g]? = some (.cells c t (0, 0)))
    (ha : a.tmps.getD q undef = .pointer (some ⟨g, 0, none⟩)) (hr : a.tmps.getD r undef = u) (hd : a.defers = []) (v0 v1 v2 v3 : Value) (hQ : ∀ w', Keeps (· = g) w1 w' → Q (.returned (.tuple #[.agg #[v0, v1, v2, v3], u])) w') :
    bodyPost Try.prog fn Q .ret a ((((w1.setCell ⟨g, 0, none⟩ v0).setCell ⟨g, 1, none⟩ v1).setCell ⟨g, 2, none⟩ v2).setCell ⟨g, 3, none⟩ v3) :=
  bodyPost_ret (results_two (q := q) (r := r) (ty := 32) hfn ha hr (load_views _ g t v0 v1 v2 v3 (set_four hc hb v0 v1 v2 v3).1)) hd (hQ _ (set_four hc hb v0 v1 v2 v3).2)
theorem lists_ok (w : World) : Calls Try.prog 17 #[] w fun e w' => e = .returned (.agg #[.func (.func 33) #[] #[], .func (.func 34) #[] #[], .func (.func 35) #[] #[], .func (.func 36) #[] #[]]) ∧ Keeps None w w' := by
  have hb := blk_new w (.cells #[.func (.func 33) #[] #[], .func (.func 34) #[] #[], .func (.func 35) #[] #[], .func (.func 36) #[] #[]] 55) w.heap.size rfl
  have hl := load_kind _ _ _ _ _ _ _ hb
  have hk := Keeps.alloc None w (.cells #[.func (.func 33) #[] #[], .func (.func 34) #[] #[], .func (.func 35) #[] #[], .func (.func 36) #[] #[]] 55)
  have HF : Hid _ := hl
  have HK : Hid _ := hk
  clear hb hl hk
  go_enter Try.func17, Try.ntmps17
  go_wp2_with fail
  exact bodyPost_ret (results_one (q := 0) (ty := 55) rfl rfl HF.out) rfl ⟨rfl, HK.out⟩
def finPS (l : List Dd) (st : List Bool) (pk : List Int) : PS := ⟨(endMS listK st (l.map dp) pk).vs, [], (endMS listK st (l.map dp) pk).pk, (endHS listK st (l.map dp) pk).spn, (endMS listK st (l.map dp) pk).mg, (endHS listK st (l.map dp) pk).lk⟩
theorem play_raw (a : Option Addr) (n c : Nat) (l : List Dd) (sa : Option Addr) (m sc : Nat) (st : List Bool) (pa : Option Addr) (k pc : Nat) (pk : List Int) (w : World) (hS : Seen w a n l) (hT : SeenV w sa m (bv' st)) (hP : SeenV w pa k (iv pk)) (hpc : k ≤ pc) (hE : refE l st pk = 0) :
    Calls Try.prog 16 #[.agg #[.func (.func 33) #[] #[], .func (.func 34) #[] #[], .func (.func 35) #[] #[], .func (.func 36) #[] #[]], .slice a n c, .slice sa m sc, .slice pa k pc] w fun e w' =>
      ∃ pb X K R, e = .returned (.pointer (some ⟨pb, 0, none⟩)) ∧ PM w' w.heap.size pb st X K R R (finPS l st pk) ∧ Keeps None w w' := by
  have h1 : ¬ (l.length > 4096 ∨ st.length > 4096 ∨ pk.length > 1048576) ∧ chkE l = 0 := by
    unfold refE at hE
    split at hE
    · omega
    · exact ⟨by assumption, hE⟩
  have hm := hT.len
  have hk := hP.len
  rw [bv_len] at hm
  rw [iv_len] at hk
  subst hm hk
  have hc : chkL l 0 0 = none := by
    have := h1.2
    unfold chkE at this
    rw [if_neg (by omega)] at this
    split at this
    · omega
    · assumption
  exact play_ok a n c l sa sc st pa pc pk w hS hT hP hpc (by have := hS.len; omega) (by omega) hc
theorem fin_pos (l : List Dd) (st : List Bool) (pk : List Int) (hc : ∀ d ∈ l.map dp, d.1 = 0 ∨ d.1 = 1 ∨ d.1 = 2 ∨ d.1 = 3 ∨ d.1 = 4) : 0 < (finPS l st pk).vs.length := by
  show 0 < (endMS listK st (l.map dp) pk).vs.length
  rw [made_all listK st (l.map dp) pk hc]
  omega
theorem kinds_of {l : List Dd} {i d : Nat} (h : chkL l i d = none) : KindsOk (l.map dp) := by
  induction l generalizing i d with
  | nil => intro x hx; simp at hx
  | cons x l ih =>
    unfold chkL at h
    by_cases hb : badK x.k d = true
    · rw [if_pos hb] at h; cases h
    · rw [if_neg hb] at h
      intro y hy
      rw [List.map_cons] at hy
      rcases List.mem_cons.1 hy with rfl | hy
      · exact (badK_ok hb).1
      · exact ih h y hy
theorem refE_ok {l : List Dd} {st : List Bool} {pk : List Int} (hE : refE l st pk = 0) : l.length ≤ 4096 ∧ st.length ≤ 4096 ∧ pk.length ≤ 1048576 ∧ chkL l 0 0 = none := by
  unfold refE at hE
  split at hE
  · omega
  · refine ⟨by omega, by omega, by omega, ?_⟩
    unfold chkE at hE
    rw [if_neg (by omega)] at hE
    split at hE
    · omega
    · assumption
/-- What a play has told, in memory. -/
structure Fin (w : World) (B : Nat) (X : PX) (K : Ky → Value) (s : PS) : Prop where
  vw : Vw w B X.va X.vc X.la X.lc K s.vs s.lk
  mg : w.ownsRow B 96 3 (.slice X.ma s.mg.length X.mc) s.mg.length (mgV s.mg)
theorem Fin.kept {S : Nat → Prop} {w w' : World} {B : Nat} {X : PX} {K : Ky → Value} {s : PS} (h : Fin w B X K s) (hk : Keeps S w w') (hS : ∀ i, B ≤ i → i < w.heap.size → ¬ S i) : Fin w' B X K s :=
  ⟨⟨fun k => row_kept (h.vw.rows k) hk (fun b e => hS b (row_low (h.vw.rows k) e) (own_lt (h.vw.rows k) e)), h.vw.apart, row_kept h.vw.views hk (fun b e => hS b (row_low h.vw.views e) (own_lt h.vw.views e)), row_kept h.vw.looks hk (fun b e => hS b (row_low h.vw.looks e) (own_lt h.vw.looks e)), h.vw.vl⟩, row_kept h.mg hk (fun b e => hS b (row_low h.mg e) (own_lt h.mg e))⟩
theorem Fin.more {w w' : World} {B : Nat} {X : PX} {K : Ky → Value} {s : PS} (h : Fin w B X K s) (hk : Keeps None w w') : Fin w' B X K s := h.kept hk (fun _ _ _ f => f)
theorem PM.fin {w : World} {base pb : Nat} {st : List Bool} {X : PX} {K : Ky → Value} {H R : Nat → Value} {s : PS} (h : PM w base pb st X K H R s) : Fin w base X K s := ⟨h.vw, h.mg⟩
set_option maxHeartbeats 1600000 in
theorem Play_ok (a : Option Addr) (n c : Nat) (l : List Dd) (sa : Option Addr) (m sc : Nat) (st : List Bool) (pa : Option Addr) (k pc : Nat) (pk : List Int) (w : World) (hS : Seen w a n l) (hT : SeenV w sa m (bv' st)) (hP : SeenV w pa k (iv pk)) (hpc : k ≤ pc) :
    Calls Try.prog 7 #[.slice a n c, .slice sa m sc, .slice pa k pc] w fun e w' =>
      (refE l st pk ≠ 0 → e = .returned (.tuple #[.agg #[.slice none 0 0, .int .i64 0, .slice none 0 0, .slice none 0 0], .int .i64 (refE l st pk)])) ∧
      (refE l st pk = 0 → ∃ B X K, e = .returned (.tuple #[.agg #[K (.inl 0), .int .i64 (finPS l st pk).vs.length, .slice X.ma (finPS l st pk).mg.length X.mc, .slice X.la (finPS l st pk).lk.length X.lc], .int .i64 0]) ∧ w.heap.size ≤ B ∧ Fin w' B X K (finPS l st pk)) ∧ Keeps None w w' := by
  have HS : Hid (Seen w a n l ∧ SeenV w sa m (bv' st) ∧ SeenV w pa k (iv pk)) := ⟨hS, hT, hP⟩
  have hm := hT.len
  have hk := hP.len
  rw [bv_len] at hm
  rw [iv_len] at hk
  have HL : Hid (m = st.length ∧ k = pk.length ∧ k ≤ pc) := ⟨hm, hk, hpc⟩
  clear hS hT hP hm hk hpc
  have hb0 := blk_new w (.cells #[.slice none 0 0, .int .i64 0, .slice none 0 0, .slice none 0 0] 32) w.heap.size rfl
  have hkb := Keeps.alloc None w (.cells #[.slice none 0 0, .int .i64 0, .slice none 0 0, .slice none 0 0] 32)
  obtain ⟨db, hdb⟩ : ∃ db, db = w.heap.size := ⟨_, rfl⟩
  rw [← hdb] at hb0
  go_enter Try.func7, Try.ntmps7
  go_upto_region 1 with fail
  rw [← hdb]
  have HDB : Hid (db = w.heap.size) := hdb
  clear hdb
  generalize w.alloc (.cells #[.slice none 0 0, .int .i64 0, .slice none 0 0, .slice none 0 0] 32) = wa at *
  have HA : Hid (wa.heap[db]? = some (.cells #[.slice none 0 0, .int .i64 0, .slice none 0 0, .slice none 0 0] 32 (0, 0)) ∧ Keeps None w wa) := ⟨hb0, hkb⟩
  clear hb0 hkb
  go_wp2_with fail
  refine (refused_ok a n c l sa m sc st pa k pc pk wa (HS.out.1.more HA.out.2) HL.out.1 HL.out.2.1).mono ?_
  rintro e w1 ⟨rfl, hk1⟩
  have HB : Hid (w1.heap[db]? = some (.cells #[.slice none 0 0, .int .i64 0, .slice none 0 0, .slice none 0 0] 32 (0, 0)) ∧ Keeps None w w1) := ⟨blk_kept HA.out.1 hk1 (fun f => f), HA.out.2.trans hk1 (fun _ f _ => f)⟩
  clear hk1 HA
  obtain ⟨E, hE⟩ : ∃ E, E = refE l st pk := ⟨_, rfl⟩
  rw [← hE]
  have HE : Hid (E = refE l st pk) := hE
  clear hE
  by_cases h0 : E = 0
  · subst h0
    go_wp2_with fail
    refine (lists_ok w1).mono ?_
    rintro e w2 ⟨rfl, hk2⟩
    have HC : Hid (w2.heap[db]? = some (.cells #[.slice none 0 0, .int .i64 0, .slice none 0 0, .slice none 0 0] 32 (0, 0)) ∧ Keeps None w w2) := ⟨blk_kept HB.out.1 hk2 (fun f => f), HB.out.2.trans hk2 (fun _ f _ => f)⟩
    clear hk2 HB
    go_wp2_with fail
    refine (play_raw a n c l sa m sc st pa k pc pk w2 (HS.out.1.more HC.out.2) (HS.out.2.1.more HC.out.2) (HS.out.2.2.more HC.out.2) HL.out.2.2 HE.out.symm).mono ?_
    rintro e w3 ⟨pb, X, K0, R, rfl, hM, hk3⟩
    obtain ⟨S, hSS⟩ : ∃ S, S = finPS l st pk := ⟨_, rfl⟩
    rw [← hSS] at hM
    have HSq : Hid (S = finPS l st pk) := hSS
    have hpos : 0 < S.vs.length := by rw [hSS]; exact fin_pos l st pk (kinds_of (refE_ok HE.out.symm).2.2.2)
    obtain ⟨vb, hva, hvc, u1, -⟩ := hM.viewAt hpos
    obtain ⟨-, -, -, -, -, -, q6, -, -, q9, q10⟩ := hM.c0
    rw [hva] at q6
    have HVA : Hid (X.va = some ⟨vb, 0, none⟩) := hva
    have hr0 := hM.vw.rows (.inl 0)
    obtain ⟨va, vc, hv0⟩ := row_shape hr0
    rw [hv0] at u1
    have HM : Hid (PM w3 w2.heap.size pb st X K0 R R S ∧ w3.heap[db]? = some (.cells #[.slice none 0 0, .int .i64 0, .slice none 0 0, .slice none 0 0] 32 (0, 0)) ∧ Keeps None w w3 ∧ K0 (.inl 0) = .slice va (Lf S.vs S.lk (.inl 0)).length vc ∧ w.heap.size ≤ w2.heap.size ∧ db < w2.heap.size) := ⟨hM, blk_kept HC.out.1 hk3 (fun f => f), HC.out.2.trans hk3 (fun _ f _ => f), hv0, HC.out.2.size, blk_lt HC.out.1⟩
    obtain ⟨N0, hN0⟩ : ∃ N, N = (Lf S.vs S.lk (.inl 0)).length := ⟨_, rfl⟩
    rw [← hN0] at u1 HM
    have hi0 : (0 : Int) < (S.vs.length : Int) := by omega
    clear hM hr0 hv0 hva hvc hk3 HC hN0 HS HL hSS
    go_upto_region 5 with fail
    have g0 : w3.cell? ⟨db, 0, none⟩ = some (.slice none 0 0) := blk_cell HM.out.2.1 0
    have g1 : w3.cell? ⟨db, 1, none⟩ = some (.int .i64 0) := blk_cell HM.out.2.1 1
    have g2 : w3.cell? ⟨db, 2, none⟩ = some (.slice none 0 0) := blk_cell HM.out.2.1 2
    have g3 : w3.cell? ⟨db, 3, none⟩ = some (.slice none 0 0) := blk_cell HM.out.2.1 3
    have f0 := blk_free HM.out.2.1 0
    have f1 := blk_free HM.out.2.1 1
    have f2 := blk_free HM.out.2.1 2
    have f3 := blk_free HM.out.2.1 3
    have hk4 := (set_four (w1 := w3.drew) (g := db) (c := #[.slice none 0 0, .int .i64 0, .slice none 0 0, .slice none 0 0]) (t := 32) rfl HM.out.2.1 (.slice va N0 vc) (.int .i64 S.vs.length) (.slice X.ma S.mg.length X.mc) (.slice X.la S.lk.length X.lc)).2
    have hdp : ¬ pb = db := by
      intro e
      have := HM.out.1.low
      have := HM.out.2.2.2.2.2
      omega
    have hdv : ¬ vb = db := by
      intro e
      have h1 := HM.out.1.vw.views
      obtain ⟨g', e2, h2, -⟩ := own_cellS h1 (k := 0) (range_get _ hpos)
      have := HM.out.2.2.2.2.2
      have h3 := HVA.out.symm.trans e2
      injection h3 with h3
      injection h3 with h3
      omega
    have k6 := hk4.cell (show w3.drew.cell? ⟨pb, 6, none⟩ = _ from q6) hdp
    have k9 := hk4.cell (show w3.drew.cell? ⟨pb, 9, none⟩ = _ from q9) hdp
    have k10 := hk4.cell (show w3.drew.cell? ⟨pb, 10, none⟩ = _ from q10) hdp
    have kv := hk4.cell (show w3.drew.cell? ⟨vb, 0, none⟩ = _ from u1) hdv
    clear hk4
    refine wp_region_held_drew (S := (fun w' => w'.cell? ⟨pb, 6, none⟩ = some (.slice (some ⟨vb, 0, none⟩) S.vs.length X.vc) ∧ w'.cell? ⟨pb, 9, none⟩ = some (.slice X.ma S.mg.length X.mc) ∧ w'.cell? ⟨pb, 10, none⟩ = some (.slice X.la S.lk.length X.lc) ∧ w'.cell? ⟨vb, 0, none⟩ = some (.slice va N0 vc))) (by kernel_rfl) ?_ (fun hHeld => ?_)
    · (try dsimp only); first | with_reducible exact ⟨q6, q9, q10, u1⟩ | with_reducible exact ⟨k6, k9, k10, kv⟩ | exact ⟨q6, q9, q10, u1⟩ | exact ⟨k6, k9, k10, kv⟩
    refine wpAnyH_take (i := 0) (oi := { dst := some 23, op := Op.move (Operand.tmp 9), type := 48, pos := "hyper.go:16", after := #[], guard := none }) (v := ?_) rfl (by kernel_rfl) (by kernel_rfl) (by kernel_rfl) (fun _ _ _ h => h) (Or.inl ⟨by rfl, ?_⟩) (by assumption) ?_
    rotate_left
    · (intro wz hSw; (try dsimp only at hSw); go_simp; try with_reducible rfl)
    simp only [Act.put, List.setIfInBounds_toArray, List.set_cons_zero, List.set_cons_succ]
    refine wpAnyH_take (i := 1) (oi := { dst := some 24, op := Op.nilCheck (Operand.tmp 23), type := 0, pos := "hyper.go:16", after := #[{ on := 0, ground := Ground.data }], guard := none }) (v := ?_) rfl (by kernel_rfl) (by kernel_rfl) (by kernel_rfl) (fun _ _ _ h => h) (Or.inl ⟨by rfl, ?_⟩) (by assumption) ?_
    rotate_left
    · (intro wz hSw; (try dsimp only at hSw); go_simp; try with_reducible rfl)
    simp only [Act.put, List.setIfInBounds_toArray, List.set_cons_zero, List.set_cons_succ]
    refine wpAnyH_take (i := 2) (oi := { dst := some 25, op := Op.fieldAddr 59 (Operand.tmp 24) 3, type := 0, pos := "hyper.go:16", after := #[{ on := 1, ground := Ground.data }], guard := none }) (v := ?_) rfl (by kernel_rfl) (by kernel_rfl) (by kernel_rfl) (fun _ _ _ h => h) (Or.inl ⟨by rfl, ?_⟩) (by assumption) ?_
    rotate_left
    · (intro wz hSw; (try dsimp only at hSw); go_simp; try with_reducible rfl)
    simp only [Act.put, List.setIfInBounds_toArray, List.set_cons_zero, List.set_cons_succ]
    refine wpAnyH_take (i := 3) (oi := { dst := some 26, op := Op.load 30 (Operand.tmp 25), type := 30, pos := "hyper.go:16", after := #[{ on := 2, ground := Ground.data }], guard := none }) (v := ?_) rfl (by kernel_rfl) (by kernel_rfl) (by kernel_rfl) (fun _ _ _ h => h) (Or.inl ⟨by rfl, ?_⟩) (by assumption) ?_
    rotate_left
    · (intro wz hSw; (try dsimp only at hSw); go_simp; try with_reducible rfl)
    simp only [Act.put, List.setIfInBounds_toArray, List.set_cons_zero, List.set_cons_succ]
    refine wpAnyH_take (i := 4) (oi := { dst := some 27, op := Op.indexAddr 30 (Operand.tmp 26) (Operand.const (Value.int IntKind.i64 0)), type := 0, pos := "hyper.go:16", after := #[{ on := 3, ground := Ground.data }], guard := none }) (v := ?_) rfl (by kernel_rfl) (by kernel_rfl) (by kernel_rfl) (fun _ _ _ h => h) (Or.inl ⟨by rfl, ?_⟩) (by assumption) ?_
    rotate_left
    · (intro wz hSw; (try dsimp only at hSw); go_simp; try with_reducible rfl)
    simp only [Act.put, List.setIfInBounds_toArray, List.set_cons_zero, List.set_cons_succ]
    refine wpAnyH_take (i := 5) (oi := { dst := some 28, op := Op.load 28 (Operand.tmp 27), type := 28, pos := "hyper.go:16", after := #[{ on := 4, ground := Ground.data }], guard := none }) (v := ?_) rfl (by kernel_rfl) (by kernel_rfl) (by kernel_rfl) (fun _ _ _ h => h) (Or.inl ⟨by rfl, ?_⟩) (by assumption) ?_
    rotate_left
    · (intro wz hSw; (try dsimp only at hSw); go_simp; try with_reducible rfl)
    simp only [Act.put, List.setIfInBounds_toArray, List.set_cons_zero, List.set_cons_succ]
    refine wpAnyH_take (i := 6) (oi := { dst := some 29, op := Op.move (Operand.tmp 9), type := 48, pos := "hyper.go:16", after := #[], guard := none }) (v := ?_) rfl (by kernel_rfl) (by kernel_rfl) (by kernel_rfl) (fun _ _ _ h => h) (Or.inl ⟨by rfl, ?_⟩) (by assumption) ?_
    rotate_left
    · (intro wz hSw; (try dsimp only at hSw); go_simp; try with_reducible rfl)
    simp only [Act.put, List.setIfInBounds_toArray, List.set_cons_zero, List.set_cons_succ]
    refine wpAnyH_take (i := 7) (oi := { dst := some 30, op := Op.nilCheck (Operand.tmp 29), type := 0, pos := "hyper.go:16", after := #[{ on := 6, ground := Ground.data }], guard := none }) (v := ?_) rfl (by kernel_rfl) (by kernel_rfl) (by kernel_rfl) (fun _ _ _ h => h) (Or.inl ⟨by rfl, ?_⟩) (by assumption) ?_
    rotate_left
    · (intro wz hSw; (try dsimp only at hSw); go_simp; try with_reducible rfl)
    simp only [Act.put, List.setIfInBounds_toArray, List.set_cons_zero, List.set_cons_succ]
    refine wpAnyH_take (i := 8) (oi := { dst := some 31, op := Op.fieldAddr 59 (Operand.tmp 30) 3, type := 0, pos := "hyper.go:16", after := #[{ on := 7, ground := Ground.data }], guard := none }) (v := ?_) rfl (by kernel_rfl) (by kernel_rfl) (by kernel_rfl) (fun _ _ _ h => h) (Or.inl ⟨by rfl, ?_⟩) (by assumption) ?_
    rotate_left
    · (intro wz hSw; (try dsimp only at hSw); go_simp; try with_reducible rfl)
    simp only [Act.put, List.setIfInBounds_toArray, List.set_cons_zero, List.set_cons_succ]
    refine wpAnyH_take (i := 9) (oi := { dst := some 32, op := Op.load 30 (Operand.tmp 31), type := 30, pos := "hyper.go:16", after := #[{ on := 8, ground := Ground.data }], guard := none }) (v := ?_) rfl (by kernel_rfl) (by kernel_rfl) (by kernel_rfl) (fun _ _ _ h => h) (Or.inl ⟨by rfl, ?_⟩) (by assumption) ?_
    rotate_left
    · (intro wz hSw; (try dsimp only at hSw); go_simp; try with_reducible rfl)
    simp only [Act.put, List.setIfInBounds_toArray, List.set_cons_zero, List.set_cons_succ]
    refine wpAnyH_take (i := 11) (oi := { dst := some 34, op := Op.move (Operand.tmp 9), type := 48, pos := "hyper.go:16", after := #[], guard := none }) (v := ?_) rfl (by kernel_rfl) (by kernel_rfl) (by kernel_rfl) (fun _ _ _ h => h) (Or.inl ⟨by rfl, ?_⟩) (by assumption) ?_
    rotate_left
    · (intro wz hSw; (try dsimp only at hSw); go_simp; try with_reducible rfl)
    simp only [Act.put, List.setIfInBounds_toArray, List.set_cons_zero, List.set_cons_succ]
    refine wpAnyH_take (i := 12) (oi := { dst := some 35, op := Op.nilCheck (Operand.tmp 34), type := 0, pos := "hyper.go:16", after := #[{ on := 11, ground := Ground.data }], guard := none }) (v := ?_) rfl (by kernel_rfl) (by kernel_rfl) (by kernel_rfl) (fun _ _ _ h => h) (Or.inl ⟨by rfl, ?_⟩) (by assumption) ?_
    rotate_left
    · (intro wz hSw; (try dsimp only at hSw); go_simp; try with_reducible rfl)
    simp only [Act.put, List.setIfInBounds_toArray, List.set_cons_zero, List.set_cons_succ]
    refine wpAnyH_take (i := 13) (oi := { dst := some 36, op := Op.fieldAddr 59 (Operand.tmp 35) 6, type := 0, pos := "hyper.go:16", after := #[{ on := 12, ground := Ground.data }], guard := none }) (v := ?_) rfl (by kernel_rfl) (by kernel_rfl) (by kernel_rfl) (fun _ _ _ h => h) (Or.inl ⟨by rfl, ?_⟩) (by assumption) ?_
    rotate_left
    · (intro wz hSw; (try dsimp only at hSw); go_simp; try with_reducible rfl)
    simp only [Act.put, List.setIfInBounds_toArray, List.set_cons_zero, List.set_cons_succ]
    refine wpAnyH_take (i := 14) (oi := { dst := some 37, op := Op.load 29 (Operand.tmp 36), type := 29, pos := "hyper.go:16", after := #[{ on := 13, ground := Ground.data }], guard := none }) (v := ?_) rfl (by kernel_rfl) (by kernel_rfl) (by kernel_rfl) (fun _ _ _ h => h) (Or.inl ⟨by rfl, ?_⟩) (by assumption) ?_
    rotate_left
    · (intro wz hSw; (try dsimp only at hSw); go_simp; try with_reducible rfl)
    simp only [Act.put, List.setIfInBounds_toArray, List.set_cons_zero, List.set_cons_succ]
    refine wpAnyH_take (i := 15) (oi := { dst := some 38, op := Op.move (Operand.tmp 9), type := 48, pos := "hyper.go:16", after := #[], guard := none }) (v := ?_) rfl (by kernel_rfl) (by kernel_rfl) (by kernel_rfl) (fun _ _ _ h => h) (Or.inl ⟨by rfl, ?_⟩) (by assumption) ?_
    rotate_left
    · (intro wz hSw; (try dsimp only at hSw); go_simp; try with_reducible rfl)
    simp only [Act.put, List.setIfInBounds_toArray, List.set_cons_zero, List.set_cons_succ]
    refine wpAnyH_take (i := 16) (oi := { dst := some 39, op := Op.nilCheck (Operand.tmp 38), type := 0, pos := "hyper.go:16", after := #[{ on := 15, ground := Ground.data }], guard := none }) (v := ?_) rfl (by kernel_rfl) (by kernel_rfl) (by kernel_rfl) (fun _ _ _ h => h) (Or.inl ⟨by rfl, ?_⟩) (by assumption) ?_
    rotate_left
    · (intro wz hSw; (try dsimp only at hSw); go_simp; try with_reducible rfl)
    simp only [Act.put, List.setIfInBounds_toArray, List.set_cons_zero, List.set_cons_succ]
    refine wpAnyH_take (i := 17) (oi := { dst := some 40, op := Op.fieldAddr 59 (Operand.tmp 39) 7, type := 0, pos := "hyper.go:16", after := #[{ on := 16, ground := Ground.data }], guard := none }) (v := ?_) rfl (by kernel_rfl) (by kernel_rfl) (by kernel_rfl) (fun _ _ _ h => h) (Or.inl ⟨by rfl, ?_⟩) (by assumption) ?_
    rotate_left
    · (intro wz hSw; (try dsimp only at hSw); go_simp; try with_reducible rfl)
    simp only [Act.put, List.setIfInBounds_toArray, List.set_cons_zero, List.set_cons_succ]
    refine wpAnyH_take (i := 18) (oi := { dst := some 41, op := Op.load 30 (Operand.tmp 40), type := 30, pos := "hyper.go:16", after := #[{ on := 17, ground := Ground.data }], guard := none }) (v := ?_) rfl (by kernel_rfl) (by kernel_rfl) (by kernel_rfl) (fun _ _ _ h => h) (Or.inl ⟨by rfl, ?_⟩) (by assumption) ?_
    rotate_left
    · (intro wz hSw; (try dsimp only at hSw); go_simp; try with_reducible rfl)
    simp only [Act.put, List.setIfInBounds_toArray, List.set_cons_zero, List.set_cons_succ]
    refine wpAnyH_ready (rs := [10]) (by kernel_rfl) (by simp) ?_
    refine AllReadyH.cons (o := { dst := some 33, op := Op.call { callee := Callee.builtin Builtin.len, args := #[Operand.tmp 32], argTypes := #[30] }, type := 3, pos := "hyper.go:16", after := #[{ on := 9, ground := Ground.data }], guard := none }) rfl (fun K hK => ?_) ?_
    · go_simp
      refine hK.out _ _ ?_ (fun hHeld2 => ?_)
      · (try dsimp only); first | with_reducible exact ⟨q6, q9, q10, u1⟩ | with_reducible exact ⟨k6, k9, k10, kv⟩ | exact ⟨q6, q9, q10, u1⟩ | exact ⟨k6, k9, k10, kv⟩
      clear hK K
      try simp only [Act.put, List.setIfInBounds_toArray, List.set_cons_zero, List.set_cons_succ]
      refine wpAnyH_take (i := 19) (oi := { dst := some 42, op := Op.build 32 #[(0, Operand.tmp 28), (1, Operand.tmp 33), (2, Operand.tmp 37), (3, Operand.tmp 41)], type := 32, pos := "hyper.go:16", after := #[{ on := 5, ground := Ground.data }, { on := 10, ground := Ground.data }, { on := 14, ground := Ground.data }, { on := 18, ground := Ground.data }], guard := none }) (v := ?_) rfl (by kernel_rfl) (by kernel_rfl) (by kernel_rfl) (fun _ _ _ h => h) (Or.inl ⟨by rfl, ?_⟩) (by assumption) ?_
      rotate_left
      · (intro wz hSw; (try dsimp only at hSw); go_simp; try with_reducible rfl)
      simp only [Act.put, List.setIfInBounds_toArray, List.set_cons_zero, List.set_cons_succ]
      refine wpAnyH_ready (rs := [20]) (by kernel_rfl) (by simp) ?_
      refine AllReadyH.cons (o := { dst := none, op := Op.store 32 (Operand.tmp 6) (Operand.tmp 42), type := 0, pos := "hyper.go:16", after := #[{ on := 19, ground := Ground.data }, { on := 0, ground := Ground.phase }, { on := 1, ground := Ground.phase }, { on := 2, ground := Ground.phase }, { on := 3, ground := Ground.phase }, { on := 4, ground := Ground.phase }, { on := 5, ground := Ground.phase }, { on := 6, ground := Ground.phase }, { on := 7, ground := Ground.phase }, { on := 8, ground := Ground.phase }, { on := 9, ground := Ground.phase }, { on := 10, ground := Ground.phase }, { on := 11, ground := Ground.phase }, { on := 12, ground := Ground.phase }, { on := 13, ground := Ground.phase }, { on := 14, ground := Ground.phase }, { on := 15, ground := Ground.phase }, { on := 16, ground := Ground.phase }, { on := 17, ground := Ground.phase }, { on := 18, ground := Ground.phase }, { on := 19, ground := Ground.phase }], guard := none }) rfl (fun K hK => ?_) ?_
      · go_simp
        refine hK.out _ _ ?_ (fun hHeld2 => ?_)
        · (try dsimp only); first | with_reducible exact ⟨q6, q9, q10, u1⟩ | with_reducible exact ⟨k6, k9, k10, kv⟩ | exact ⟨q6, q9, q10, u1⟩ | exact ⟨k6, k9, k10, kv⟩
        clear hK K
        try simp only [Act.put, List.setIfInBounds_toArray, List.set_cons_zero, List.set_cons_succ]
        refine wpAnyH_take (i := 21) (oi := { dst := some 7, op := Op.assign (Operand.const (Value.int IntKind.i64 0)), type := 33, pos := "hyper.go:16", after := #[{ on := 20, ground := Ground.chain }, { on := 0, ground := Ground.phase }, { on := 1, ground := Ground.phase }, { on := 2, ground := Ground.phase }, { on := 3, ground := Ground.phase }, { on := 4, ground := Ground.phase }, { on := 5, ground := Ground.phase }, { on := 6, ground := Ground.phase }, { on := 7, ground := Ground.phase }, { on := 8, ground := Ground.phase }, { on := 9, ground := Ground.phase }, { on := 10, ground := Ground.phase }, { on := 11, ground := Ground.phase }, { on := 12, ground := Ground.phase }, { on := 13, ground := Ground.phase }, { on := 14, ground := Ground.phase }, { on := 15, ground := Ground.phase }, { on := 16, ground := Ground.phase }, { on := 17, ground := Ground.phase }, { on := 18, ground := Ground.phase }, { on := 19, ground := Ground.phase }, { on := 20, ground := Ground.phase }], guard := none }) (v := ?_) rfl (by kernel_rfl) (by kernel_rfl) (by kernel_rfl) (fun _ _ _ h => h) (Or.inl ⟨by rfl, ?_⟩) (by assumption) ?_
        rotate_left
        · (intro wz hSw; (try dsimp only at hSw); go_simp; try with_reducible rfl)
        simp only [Act.put, List.setIfInBounds_toArray, List.set_cons_zero, List.set_cons_succ]
        refine wpAnyH_done (by kernel_rfl) ?_ _
        go_wp2_with fail
        exact views_end (w1 := w3.drew) (u := .int .i64 0) 6 7 rfl rfl HM.out.2.1 rfl rfl rfl (.slice va N0 vc) (.int .i64 S.vs.length) (.slice X.ma S.mg.length X.mc) (.slice X.la S.lk.length X.lc) (fun w' hk => ⟨fun h => absurd HE.out.symm h, fun _ => ⟨w2.heap.size, X, K0, by rw [HM.out.2.2.2.1, HSq.out], HM.out.2.2.2.2.1, by rw [← HSq.out]; exact (HM.out.1.more (Keeps.drew None _)).fin.kept hk (fun i h1 _ e => by have := HM.out.2.2.2.2.2; omega)⟩, (HM.out.2.2.1.andDrew).trans hk (fun i e hi => by have := HDB.out; omega)⟩)
      exact AllReadyH.nil
    exact AllReadyH.nil
  · have hf : (E != 0) = true := by simp [h0]
    have HB2 := HB.out.1
    have c0 : w1.cell? ⟨db, 0, none⟩ = some (.slice none 0 0) := blk_cell HB2 0
    have c1 : w1.cell? ⟨db, 1, none⟩ = some (.int .i64 0) := blk_cell HB2 1
    have c2 : w1.cell? ⟨db, 2, none⟩ = some (.slice none 0 0) := blk_cell HB2 2
    have c3 : w1.cell? ⟨db, 3, none⟩ = some (.slice none 0 0) := blk_cell HB2 3
    have f0 := blk_free HB2 0
    have f1 := blk_free HB2 1
    have f2 := blk_free HB2 2
    have f3 := blk_free HB2 3
    clear HB2 hf
    go_wp2_with fail
    exact views_end (u := .int .i64 E) 6 7 rfl rfl HB.out.1 rfl rfl rfl (.slice none 0 0) (.int .i64 0) (.slice none 0 0) (.slice none 0 0) (fun w' hk => ⟨fun _ => by rw [← HE.out], fun h => absurd (HE.out.trans h) h0, HB.out.2.trans hk (fun i e hi => by have := HDB.out; omega)⟩)
end Go.Proofs.Ytdiabpoafennlab
/-! What is put, in the serial order: the program's Serial and the document's. -/
namespace Go.Proofs.Ytdiabpoafennlab
set_option linter.unusedVariables false
set_option maxRecDepth 20000
set_option linter.unusedSimpArgs false
open Go.RowKit Go.HeapKit

/-- What is put by deeds. -/
def putsD (l : List Dd) : List Int := (l.filter (fun d => d.k == 4)).map (·.loc)
theorem putsD_app (a b : List Dd) : putsD (a ++ b) = putsD a ++ putsD b := by simp [putsD]
theorem takeD {l : List Dd} {k : Nat} {x : Dd} (hx : l[k]? = some x) : l.take (k + 1) = l.take k ++ [x] := by
  rw [List.take_add_one, hx]
  rfl
theorem putsD_more {l : List Dd} {k : Nat} {x : Dd} (hx : l[k]? = some x) : putsD (l.take (k + 1)) = putsD (l.take k) ++ if x.k = 4 then [x.loc] else [] := by
  rw [takeD hx, putsD_app]
  by_cases h : x.k = 4 <;> simp [putsD, h]
theorem putsD_len (l : List Dd) : (putsD l).length ≤ l.length := by
  unfold putsD
  rw [List.length_map]
  exact List.length_filter_le _ _
theorem check_two (a : Option Addr) (n c : Nat) (l : List Dd) (w : World) (hS : Seen w a n l) :
    Calls Try.prog 28 #[.slice a n c] w fun e w' => e = .returned (.agg #[.int .i64 (chkE l), .int .i64 (chkA l)]) ∧ Keeps None w w' := check_ok a n c l w hS
theorem rcheck_two (a : Option Addr) (n c : Nat) (l : List Dd) (w : World) (hS : Seen w a n l) :
    Calls Try.prog 38 #[.slice a n c] w fun e w' => e = .returned (.agg #[.int .i64 (chkE l), .int .i64 (chkA l)]) ∧ Keeps None w w' := rcheck_ok a n c l w hS
theorem chkE_ok {l : List Dd} (h : chkE l = 0) : l.length ≤ 4096 := by
  by_cases hl : l.length > 4096
  · have := (chk_long hl).1; omega
  · omega
set_option maxHeartbeats 1600000 in
theorem serial_ok (a : Option Addr) (n c : Nat) (l : List Dd) (w : World) (hS : Seen w a n l) :
    Calls Try.prog 14 #[.slice a n c] w fun e w' => ∃ v, e = .returned (.tuple #[v, .int .i64 (chkE l)]) ∧ (chkE l ≠ 0 → v = .slice none 0 0) ∧ (chkE l = 0 → w'.ownsRow w.heap.size 2 1 v (putsD l).length (iv (putsD l))) ∧ Keeps None w w' := by
  have HS : Hid (Seen w a n l) := hS
  have HLen : Hid (n = l.length) := hS.len
  clear hS
  go_enter Try.func14, Try.ntmps14
  go_wp2_with fail
  refine (check_two a n c l w HS.out).mono ?_
  rintro e w1 ⟨rfl, hk1⟩
  obtain ⟨E, hE⟩ : ∃ E, E = chkE l := ⟨_, rfl⟩
  obtain ⟨A1, hA⟩ : ∃ A1, A1 = chkA l := ⟨_, rfl⟩
  rw [← hE, ← hA]
  have HE : Hid (E = chkE l) := hE
  clear hE hA
  have b2 := heap_alloc_new w1 (.cells #[.int .i64 E, .int .i64 A1] 85)
  have k2 := hk1.andAlloc (.cells #[.int .i64 E, .int .i64 A1] 85)
  have g0 : (w1.alloc (.cells #[.int .i64 E, .int .i64 A1] 85)).cell? ⟨w1.heap.size, 0, none⟩ = some (.int .i64 E) := (blk_cell b2 0).trans rfl
  by_cases h0 : E = 0
  · subst h0
    have hl : l.length ≤ 4096 := chkE_ok HE.out.symm
    have hn : n ≤ 4096 := by have := HLen.out; omega
    have HK : Hid (Keeps None w (w1.alloc (.cells #[.int .i64 0, .int .i64 A1] 85))) := k2
    clear hk1 b2 k2
    go_wp2_with fail
    clear g0
    go_loopw [5, 17] (fun s i wr => ∃ k : Nat, k ≤ n ∧ i = .int .i64 k ∧ wr.ownsRow w.heap.size 2 1 s (putsD (l.take k)).length (iv (putsD (l.take k))) ∧ Keeps None w wr) (fun _ i _ => n - (intOf i).toNat)
    case atStart => exact ⟨0, Nat.zero_le _, rfl, row_nil _ _ _ _, HK.out⟩
    case round =>
      obtain ⟨k, hk, rfl, hrow, hkp⟩ := hrel
      have hlen := HLen.out
      obtain ⟨sa, cs, rfl⟩ := row_shape hrow
      by_cases hkn : k < n
      · obtain ⟨b, off, x, rfl, hb, hx, u0, u1⟩ := (HS.out.more hkp).elem hkn
        have i2 : (k : Int) < (n : Int) := by omega
        have hm := putsD_more hx
        obtain ⟨xk, xl⟩ := x
        by_cases e4 : xk = 4
        · subst e4
          have hbn : (((wr.alloc (.cells #[.int .i64 4, .int .i64 xl] 44)).alloc (.cells #[.int .i64 xl] 2))).heap[wr.heap.size + 1]? = some (.cells #[.int .i64 xl] 2 (0, 0)) := blk_new _ _ _ (by simp)
          have hpl := putsD_len (l.take k)
          have hpl2 : (l.take k).length ≤ 4096 := by rw [List.length_take]; omega
          obtain ⟨g, cp, w2, hr, ho, hk3, hm3⟩ := i64_more w.heap.size (.slice sa _ cs) (putsD (l.take k)) xl 28 _ _ ((hrow.alloc _).alloc _) (by have := hkp.size; simp; omega) (by omega) hbn
          have HN : Hid (w2.ownsRow w.heap.size 2 1 (.slice (some ⟨g, 0, none⟩) ((putsD (l.take k)).length + 1) cp) (putsD (l.take (k + 1))).length (iv (putsD (l.take (k + 1)))) ∧ Keeps None w w2) := by
            rw [hm]
            simp only [if_true]
            exact ⟨by rw [List.length_append]; exact ho, ((hkp.andAlloc _).andAlloc _).trans hk3 (fun i e hi => by have := row_low hrow e; omega)⟩
          clear hrow hkp hx hlen hm ho hk3 hm3 hbn HK
          go_wp2_with (at_builtin; refine wpList_append_run rfl (.tmp 24) (.tmp 27) 28 28 rfl rfl rfl hr ?_)
          go_roundw
          case rel => exact ⟨k + 1, by omega, by go_num, HN.out⟩
          case measure => simp [intOf]; omega
        · have HN : Hid (wr.ownsRow w.heap.size 2 1 (.slice sa (putsD (l.take k)).length cs) (putsD (l.take (k + 1))).length (iv (putsD (l.take (k + 1)))) ∧ Keeps None w wr) := by
            rw [hm, if_neg e4, List.append_nil]
            exact ⟨hrow, hkp⟩
          clear hrow hkp hx hlen hm HK
          go_wp2
          go_roundw
          case rel => exact ⟨k + 1, by omega, by go_num, HN.out.1.alloc _, HN.out.2.andAlloc _⟩
          case measure => simp [intOf]; omega
      · have hkn2 : k = n := by omega
        subst hkn2
        have ht : l.take k = l := List.take_of_length_le (by omega)
        have HN : Hid (wr.ownsRow w.heap.size 2 1 (.slice sa (putsD (l.take k)).length cs) (putsD l).length (iv (putsD l)) ∧ Keeps None w wr) := ⟨by rw [ht] at hrow ⊢; exact hrow, hkp⟩
        clear ht
        clear hrow hkp hlen HK
        go_wp2
        go_ret2
        rw [← HE.out]
        exact ⟨_, rfl, fun h => absurd rfl h, fun _ => HN.out.1, HN.out.2⟩
  · have HK : Hid (Keeps None w (w1.alloc (.cells #[.int .i64 E, .int .i64 A1] 85))) := k2
    clear hk1 b2 k2
    go_upto_region 3 with fail
    go_quiet (fail)
    go_wp2
    go_ret2
    rw [← HE.out]
    exact ⟨_, rfl, fun _ => rfl, fun h => absurd h h0, HK.out.trans (keeps_drewN _ _) (fun _ f _ => f)⟩
end Go.Proofs.Ytdiabpoafennlab
/-! What the laws of reducers ask: may a game be played, what is put. -/
namespace Go.Proofs.Ytdiabpoafennlab
set_option linter.unusedVariables false
set_option maxRecDepth 20000
set_option linter.unusedSimpArgs false
open Go.RowKit Go.HeapKit

end Go.Proofs.Ytdiabpoafennlab
