import Derived.Test.YtdiabpoafennlabPkAP
import Derived.Test.YtdiabpoafennlabPkAJ
import Derived.Deep.Cut
/-! The document's run, whole. -/
namespace Go.Proofs.Ytdiabpoafennlab.Rn
set_option linter.unusedVariables false
set_option maxRecDepth 20000
set_option linter.unusedSimpArgs false
open Go.RowKit Go.HeapKit Go.PlainOps

theorem PM.start {w : World} {base pb : Nat} {K : RP} (hb : w.heap[pb]? = some (.cells #[.int .i64 K.op, .int .i64 K.unit, .slice none 0 0, .slice none 0 0, .slice K.pa K.pk.length K.pc, .int .i64 0, .int .i64 0, .slice none 0 0, .int .i64 0, .slice none 0 0, .slice none 0 0] 65 (0, 0))) (hl : base ≤ pb) (hA : SeenV w K.pa K.pk.length (iv K.pk)) (hlow : ∀ b, blockOf K.pa = some b → 0 < K.pk.length → b < base) :
    PM w base pb K ⟨none, 0, none, 0, none, 0, none, 0⟩ (fun _ => .slice none 0 0) (fun _ => .slice none 0 0) (fun _ => .slice none 0 0) 0 ⟨[], [], K.pk, 0, [], []⟩ :=
  ⟨hb, hl, ⟨row_nil _ _ _ _, fun i hi => by simp at hi, row_nil _ _ _ _, fun i hi => by simp at hi⟩, ⟨row_nil _ _ _ _, fun i hi => by simp at hi⟩, ⟨hA, hlow, rfl, Nat.zero_le _⟩, row_nil _ _ _ _⟩
/-- The root begins. -/
theorem PM.firstTask {w w1 : World} {base pb nx : Nat} {K : RP} {X : RX} {L M R : Nat → Value} {s : PS} (h : PM w base pb K X L M R nx s) (hs : s.tk = []) {r : List Nat} {V : Value} {g cap : Nat} (hV : w.ownsRow base 3 1 V r.length (nv r)) (ho : w1.ownsRow base 93 2 (.slice (some ⟨g, 0, none⟩) 1 cap) 1 [.int .i64 (-1), V]) (hk : Keeps None w w1) :
    PM (w1.setCell ⟨pb, 3, none⟩ (.slice (some ⟨g, 0, none⟩) 1 cap)) base pb K { X with ta := some ⟨g, 0, none⟩, tc := cap } L M (fun _ => V) nx { s with tk := [(0, r)] } := by
  have h1 := h.more hk
  refine PM.put (c := cells K X nx s) h1.blk h.lo (by simp [cells]) h1.vw ⟨?_, ?_⟩ h1.ar h1.mg
  · show w1.ownsRow base 93 2 (.slice (some ⟨g, 0, none⟩) 1 cap) 1 ((List.range (1 * 2)).map (sF [(0, r)] (fun _ => V)))
    have e : (List.range (1 * 2)).map (sF [(0, r)] (fun _ => V)) = [.int .i64 (-1), V] := by simp [List.range_succ, sF]
    rw [e]
    exact ho
  · intro i hi
    have hi0 : i = 0 := by have : i < [((0 : Nat), r)].length := hi; simpa using this
    subst hi0
    exact row_kept hV hk (fun _ _ f => f)
/-- What the run tells. -/
structure RFin (w : World) (base pb : Nat) (K : RP) (X : RX) (L M : Nat → Value) (s : PS) : Prop where
  vw : Vw w base K X.va X.vc X.la X.lc L M s.vs s.lk
  mg : w.ownsRow base 96 3 (.slice X.ma s.mg.length X.mc) s.mg.length (mgV s.mg)
  c2 : w.cell? ⟨pb, 2, none⟩ = some (.slice X.va s.vs.length X.vc)
  c7 : w.cell? ⟨pb, 7, none⟩ = some (L 0)
  c8 : w.cell? ⟨pb, 8, none⟩ = some (.int .i64 s.vs.length)
  c9 : w.cell? ⟨pb, 9, none⟩ = some (.slice X.ma s.mg.length X.mc)
  c10 : w.cell? ⟨pb, 10, none⟩ = some (.slice X.la s.lk.length X.lc)
theorem PM.fin {w : World} {base pb nx : Nat} {K : RP} {X : RX} {L M R : Nat → Value} {s : PS} (h : PM w base pb K X L M R nx s) (h0 : 0 < s.vs.length) : RFin ((w.setCell ⟨pb, 7, none⟩ (L 0)).setCell ⟨pb, 8, none⟩ (.int .i64 s.vs.length)) base pb K X L M s := by
  have hk : Keeps (· = pb) w ((w.setCell ⟨pb, 7, none⟩ (L 0)).setCell ⟨pb, 8, none⟩ (.int .i64 s.vs.length)) := keeps_one (keeps_one (Keeps.refl _ _) _) _
  have hT : OnlyT (· = pb) w 65 := onlyT_one h.blk
  have hb := blk_set (i := 8) (blk_set (i := 7) h.blk (L 0)) (.int .i64 s.vs.length)
  exact ⟨h.vw.other hk hT (by decide) (by decide) (by decide), row_other h.mg hk hT (by decide), (blk_cell hb 2).trans (by simp [cells]), (blk_cell hb 7).trans (by simp [cells]), (blk_cell hb 8).trans (by simp [cells]), (blk_cell hb 9).trans (by simp [cells]), (blk_cell hb 10).trans (by simp [cells])⟩
theorem finPS_len (l : List Dd) (st : List Bool) (pk : List Int) (hc : chkL l 0 0 = none) : 0 < (finPS l st pk).vs.length := fin_pos l st pk (kinds_of hc)
theorem fits_putsL {l : List Dd} (h : Fits (l.map Dd.loc)) : Fits (putsL (l.map dp)) := fun x hx => by
  unfold putsL at hx
  obtain ⟨d, hd, rfl⟩ := List.mem_map.1 hx
  obtain ⟨y, hy, rfl⟩ := List.mem_map.1 (List.mem_filter.1 hd).1
  exact h y.loc (List.mem_map.2 ⟨y, hy, rfl⟩)
theorem fits_left {a b P : List Int} (h : a ++ b = P) (hf : Fits P) : Fits a := fun x hx => hf x (by rw [← h]; exact List.mem_append_left _ hx)
set_option maxHeartbeats 6400000 in
theorem whole_ok (K0 : RP) (a : Option Addr) (n c : Nat) (l : List Dd) (sa : Option Addr) (sn sc : Nat) (st : List Bool) (pn : Nat) (w : World) (hS : Seen w a n l) (hT : SeenV w sa sn (bv' st)) (hP : SeenV w K0.pa pn (iv K0.pk)) (hK : OkK K0) (hn : n ≤ 4096) (hst : st.length ≤ 4096) (hpk : K0.pk.length ≤ 1048576) (hc : chkL l 0 0 = none) (hf : Fits (l.map Dd.loc)) :
    Calls Try.prog 19 #[.int .i64 K0.op, .int .i64 K0.unit, .slice a n c, .slice sa sn sc, .slice K0.pa pn K0.pc] w fun e w' =>
      ∃ pb X L M, e = .returned (.pointer (some ⟨pb, 0, none⟩)) ∧ RFin w' w.heap.size pb K0 X L M (finPS l st K0.pk) ∧ Keeps None w w' := by
  have hm := hT.len
  have hkk := hP.len
  rw [bv_len] at hm
  rw [iv_len] at hkk
  subst hkk
  have HSS : Hid (Seen w a n l ∧ SeenV w sa sn (bv' st) ∧ SeenV w K0.pa K0.pk.length (iv K0.pk) ∧ sn = st.length ∧ n = l.length ∧ chkL l 0 0 = none ∧ OkK K0 ∧ K0.pk.length ≤ 1048576 ∧ Fits (l.map Dd.loc)) := ⟨hS, hT, hP, hm, hS.len, hc, hK, hpk, hf⟩
  clear hS hT hP hc hK hpk hf hm
  obtain ⟨B, hB⟩ : ∃ B, B = w.heap.size := ⟨_, rfl⟩
  have hb0 := blk_new w (.cells #[.int .i64 K0.op, .int .i64 K0.unit, .slice none 0 0, .slice none 0 0, .slice K0.pa K0.pk.length K0.pc, .int .i64 0, .int .i64 0, .slice none 0 0, .int .i64 0, .slice none 0 0, .slice none 0 0] 65) B hB.symm
  have hkb := Keeps.alloc None w (.cells #[.int .i64 K0.op, .int .i64 K0.unit, .slice none 0 0, .slice none 0 0, .slice K0.pa K0.pk.length K0.pc, .int .i64 0, .int .i64 0, .slice none 0 0, .int .i64 0, .slice none 0 0, .slice none 0 0] 65)
  go_enter Try.func19, Try.ntmps19
  go_upto_region 2 with fail
  rw [← hB]
  have HB : Hid (B = w.heap.size) := hB
  clear hB
  generalize w.alloc (.cells #[.int .i64 K0.op, .int .i64 K0.unit, .slice none 0 0, .slice none 0 0, .slice K0.pa K0.pk.length K0.pc, .int .i64 0, .int .i64 0, .slice none 0 0, .int .i64 0, .slice none 0 0, .slice none 0 0] 65) = wa at *
  have HP0 : Hid (PM wa B B K0 ⟨none, 0, none, 0, none, 0, none, 0⟩ (fun _ => .slice none 0 0) (fun _ => .slice none 0 0) (fun _ => .slice none 0 0) 0 ⟨[], [], K0.pk, 0, [], []⟩ ∧ Keeps (fun i => B ≤ i) w wa) := by
    refine ⟨PM.start hb0 (Nat.le_refl _) (HSS.out.2.2.1.more hkb) (fun b e h0 => ?_), hkb.mono (fun _ f _ => f.elim)⟩
    obtain ⟨b', off, e', hlt, _⟩ := HSS.out.2.2.1.ex h0
    rw [e'] at e
    simp [blockOf] at e
    rw [HB.out]
    omega
  clear hb0 hkb
  go_wp2_with fail
  refine (made_ok B B 0 K0 _ _ _ _ _ wa HP0.out.1 HSS.out.2.2.2.2.2.2.1 (by simp)).mono ?_
  rintro e w2 ⟨rfl, ⟨X2, L2, hM2, hta2⟩, hk2⟩
  have HM2 : Hid (PM w2 B B K0 X2 L2 (fun _ => .slice none 0 0) (fun _ => .slice none 0 0) 0 ⟨[[]], [], K0.pk, 0, [], []⟩ ∧ Keeps (fun i => B ≤ i) w w2 ∧ X2.ta = none) := ⟨hM2, HP0.out.2.trans hk2 (fun i e _ => e), hta2⟩
  have hlen0 : (⟨[], [], K0.pk, 0, [], []⟩ : PS).vs.length = 0 := rfl
  rw [hlen0]
  clear hM2 hk2 hta2 HP0 hlen0
  go_upto_region 3 with fail
  have q3 := HM2.out.1.c0.2.2.2.1
  have htc : X2.tc = 0 := by
    rcases HM2.out.1.tk.tks.2 with ⟨e, -⟩ | ⟨g, cap, cur, e, -⟩
    · injection e
    · injection e with e
      rw [HM2.out.2.2] at e
      cases e
  rw [HM2.out.2.2, htc] at q3
  have q30 : w2.cell? ⟨B, 3, none⟩ = some (.slice none 0 0) := q3
  have hdA := HM2.out.1.more (Keeps.alloc None w2 (.cells #[.int .i64 0] 3))
  have hdB := hdA.more (Keeps.alloc None (w2.alloc (.cells #[.int .i64 0] 3)) (.cells #[.int .i64 (-1), .slice (some ⟨w2.heap.size, 0, none⟩) 1 1] 93))
  obtain ⟨g, cap, w4, hr4, ho4, hk4⟩ := rtask_more B (.slice none 0 0) (-1) (.slice (some ⟨w2.heap.size, 0, none⟩) 1 1) 0 [] 63 (w2.heap.size + 1) _ (row_nil _ _ _ _) hdB.size (by omega) rfl (blk_new (w2.alloc (.cells #[.int .i64 0] 3)) _ _ (by simp))
  have ho1 := (own_one (w := w2) 0 HM2.out.1.size).alloc (.cells #[.int .i64 (-1), .slice (some ⟨w2.heap.size, 0, none⟩) 1 1] 93)
  have hk4' : Keeps None ((w2.alloc (.cells #[.int .i64 0] 3)).alloc (.cells #[.int .i64 (-1), .slice (some ⟨w2.heap.size, 0, none⟩) 1 1] 93)) w4 := hk4.mono (fun i e _ => by simp [Value.ownBlock] at e)
  have hM4 := hdB.firstTask rfl (r := [0]) (V := .slice (some ⟨w2.heap.size, 0, none⟩) 1 1) ho1 ho4 hk4'
  have hb4 := blk_kept hdB.blk hk4' (fun f => f)
  have f3 : w4.frozen? ⟨B, 3, none⟩ = false := blk_free hb4 3
  have kAB := (Keeps.alloc None w2 (.cells #[.int .i64 0] 3)).andAlloc (.cells #[.int .i64 (-1), .slice (some ⟨w2.heap.size, 0, none⟩) 1 1] 93)
  have q34 : w4.cell? ⟨B, 3, none⟩ = some (.slice none 0 0) := (kAB.trans hk4' (fun _ f _ => f)).cell q30 (fun f => f)
  have HM4 : Hid ((∃ X L M R nx, PM (w4.setCell ⟨B, 3, none⟩ (.slice (some ⟨g, 0, none⟩) 1 cap)) B B K0 X L M R nx (psS (HS.start listK K0.pk))) ∧ Keeps (fun i => B ≤ i) w (w4.setCell ⟨B, 3, none⟩ (.slice (some ⟨g, 0, none⟩) 1 cap))) := ⟨⟨_, _, _, _, _, hM4⟩, ((HM2.out.2.1.trans kAB (fun _ f _ => f.elim)).trans hk4' (fun _ f _ => f.elim)).andSet (x := ⟨B, 3, none⟩) (.inl (Nat.le_refl _)) _⟩
  clear hdA hdB ho4 hk4 ho1 hk4' hM4 hb4 kAB q3 htc HM2
  go_upto_region 4 with (at_builtin; refine wpList_append_run rfl (.tmp 25) (.tmp 29) 63 63 rfl rfl rfl hr4 ?_)
  generalize w4.setCell ⟨B, 3, none⟩ (.slice (some ⟨g, 0, none⟩) 1 cap) = w5 at *
  clear hr4 f3 q34 q30
  go_wp2_with fail
  go_loopw [13] (fun i wr => ∃ (k d : Nat) (s : HS (List Int)) (P : List Int) (X : RX) (L M R : Nat → Value) (nx : Nat), k ≤ n ∧ i = .int .i64 k ∧ PM wr B B K0 X L M R nx (psS s) ∧ Okd k d P s ∧ s.run listK st ((l.drop k).map dp) k = endHS listK st (l.map dp) K0.pk ∧ chkL (l.drop k) k d = none ∧ P ++ putsL ((l.drop k).map dp) = putsL (l.map dp) ∧ Keeps (fun i => B ≤ i) w wr) (fun i _ => n - (intOf i).toNat)
  case atStart =>
    obtain ⟨⟨X, L, M, R, nx, h1⟩, h2⟩ := HM4.out
    exact ⟨0, 0, HS.start listK K0.pk, [], X, L, M, R, nx, Nat.zero_le _, rfl, h1, okd_start K0.pk, rfl, HSS.out.2.2.2.2.2.1, rfl, h2⟩
  case round =>
    clear HM4
    obtain ⟨k, d, s, P, X, L, M, R, nx, hk, rfl, hM, hok, hrun, hchk, hput, hkp⟩ := hrel
    have hlen := HSS.out.2.2.2.2.1
    by_cases hkn : k < n
    · have hBw : w.heap.size ≤ B := by have := HB.out; omega
      obtain ⟨b, off, x, rfl, hb, hx, u0, u1⟩ := (HSS.out.1.below hkp hBw).elem hkn
      obtain ⟨hbad, hchk2⟩ := chkL_ok hx hchk
      obtain ⟨hkk, hkd⟩ := badK_ok hbad
      have hi2 : (k : Int) < (n : Int) := by omega
      have HM : Hid (PM wr B B K0 X L M R nx (psS s) ∧ Okd k d P s ∧ Keeps (fun i => B ≤ i) w wr ∧ Fits P ∧ (-9223372036854775808 ≤ x.loc ∧ x.loc ≤ 9223372036854775807) ∧ SeenV wr sa sn (bv' st) ∧ (∀ b, blockOf sa = some b → 0 < sn → b < B)) := by
        refine ⟨hM, hok, hkp, fits_left hput (fits_putsL HSS.out.2.2.2.2.2.2.2.2), HSS.out.2.2.2.2.2.2.2.2 x.loc (List.mem_map.2 ⟨x, List.mem_of_getElem? hx, rfl⟩), HSS.out.2.1.kept hkp (fun h0 b hb hlt hs => absurd hs (Nat.not_le.2 (Nat.lt_of_lt_of_le hlt hBw))), fun b hb h0 => ?_⟩
        obtain ⟨b', off', e', hlt, _⟩ := HSS.out.2.1.ex h0
        rw [e'] at hb
        simp [blockOf] at hb
        omega
      have HN : Hid ((s.deed listK st k x.k x.loc).run listK st ((l.drop (k + 1)).map dp) (k + 1) = endHS listK st (l.map dp) K0.pk ∧ chkL (l.drop (k + 1)) (k + 1) (nxtK x.k d) = none ∧ (P ++ if x.k = 4 then [x.loc] else []) ++ putsL ((l.drop (k + 1)).map dp) = putsL (l.map dp) ∧ (x.k = 0 ∨ x.k = 1 ∨ x.k = 2 ∨ x.k = 3 ∨ x.k = 4) ∧ ¬ (x.k = 1 ∧ d = 0)) := by
        refine ⟨by rw [← run_step hx]; exact hrun, hchk2, ?_, hkk, hkd⟩
        rw [← hput]
        obtain ⟨h1, h2⟩ := List.getElem?_eq_some_iff.1 hx
        conv => rhs; rw [List.drop_eq_getElem_cons h1, h2]
        rw [List.map_cons, putsL_cons, List.append_assoc]
        rfl
      have HKN : Hid (k ≤ 4096 ∧ k + 1 ≤ n) := ⟨by omega, hkn⟩
      clear hM hok hrun hchk hput hkp hlen hbad hchk2 hkk hkd hx hBw
      obtain ⟨xk, xl⟩ := x
      go_wp2_with fail
      refine (deed_any B B k d nx K0 X L M R st sa sn sc s P wr xk xl HM.out.1 HM.out.2.1 HSS.out.2.2.2.2.2.2.1 HSS.out.2.2.2.2.2.2.2.1 HM.out.2.2.2.1 HM.out.2.2.2.2.1 HSS.out.2.2.2.1 HM.out.2.2.2.2.2.1 HM.out.2.2.2.2.2.2 HKN.out.1 hst HN.out.2.2.2.1 HN.out.2.2.2.2).mono ?_
      rintro e w5 ⟨rfl, ⟨X5, L5, M5, R5, nx5, hM5⟩, hk5⟩
      have HE : Hid (PM w5 B B K0 X5 L5 M5 R5 nx5 (psS (s.deed listK st k xk xl)) ∧ Okd (k + 1) (nxtK xk d) (P ++ if xk = 4 then [xl] else []) (s.deed listK st k xk xl) ∧ Keeps (fun i => B ≤ i) w w5) := ⟨hM5, HM.out.2.1.deed st xk xl HN.out.2.2.2.1 HN.out.2.2.2.2, HM.out.2.2.1.trans hk5 (fun i e _ => e)⟩
      clear hM5 hk5 u0 u1
      go_wp2_with fail
      exact ⟨⟨k + 1, nxtK xk d, _, _, X5, L5, M5, R5, nx5, HKN.out.2, by go_num, HE.out.1, HE.out.2.1, HN.out.1, HN.out.2.1, HN.out.2.2.1, HE.out.2.2⟩, by simp [intOf]; omega⟩
    · have hkn2 : k = n := by omega
      subst hkn2
      have hi2 : ¬ (k : Int) < (k : Int) := by omega
      rw [List.drop_eq_nil_of_le (by omega)] at hrun hput
      have hs : s = endHS listK st (l.map dp) K0.pk := hrun
      have hPP : P = putsL (l.map dp) := by rw [← hput]; simp [putsL]
      have HM : Hid (PM wr B B K0 X L M R nx (psS s) ∧ Okd k d P s ∧ Keeps (fun i => B ≤ i) w wr ∧ s = endHS listK st (l.map dp) K0.pk ∧ k = l.length ∧ P.length ≤ 4096 ∧ Fits P ∧ s.ini.length ≤ 4999) := ⟨hM, hok, hkp, hs, hlen, by have := hok.np; omega, by rw [hPP]; exact fits_putsL HSS.out.2.2.2.2.2.2.2.2, by have := hok.ni; have := hok.nd; omega⟩
      clear hM hok hrun hchk hput hkp hlen hs hPP hk hkn
      go_wp2_with fail
      go_loopw [] (fun wq => ∃ (X : RX) (L M R : Nat → Value) (nx sp : Nat) (ini : List (Nat × List Nat)) (m : MS (List Int)), PM wq B B K0 X L M R nx (psOf (psS s) ini.reverse sp m) ∧ Left k P ini m ∧ MS.ends listK k ini m = endMS listK st (l.map dp) K0.pk ∧ ini.length ≤ 4999 ∧ Keeps (fun i => B ≤ i) w wq) (fun wq => cellLen (wq.cell? ⟨B, 3, none⟩))
      case atStart =>
        refine ⟨X, L, M, R, nx, s.sp, s.ini, s.m, HM.out.1, ⟨HM.out.2.1.inv.lk, HM.out.2.1.inv.line, HM.out.2.1.ct.ct, by have := HM.out.2.1.nv; omega⟩, ?_, HM.out.2.2.2.2.2.2.2, HM.out.2.2.1⟩
        unfold endMS
        rw [← HM.out.2.2.2.1, List.length_map, ← HM.out.2.2.2.2.1]
      case round =>
        obtain ⟨X6, L6, M6, R6, nx6, sp, ini, m, hM6, hL, hends, hil, hk6⟩ := hrel
        have HEnd : Hid ((endHS listK st (l.map dp) K0.pk).spn = s.spn ∧ (endHS listK st (l.map dp) K0.pk).lk = s.lk) := by
          have h := HM.out.2.2.2.1
          exact ⟨by rw [← h], by rw [← h]⟩
        obtain ⟨r1, r2⟩ := hL.rows
        obtain ⟨T, hT⟩ : ∃ T, T = ini.length + 1 := ⟨_, rfl⟩
        have q3 := hM6.c0.2.2.2.1
        rw [show (psOf (psS s) ini.reverse sp m).tk.length = T by rw [hT]; simp [psOf]] at q3
        have H6 : Hid (PM wr B B K0 X6 L6 M6 R6 nx6 (psOf (psS s) ini.reverse sp m) ∧ Keeps (fun i => B ≤ i) w wr ∧ Left k P ini m ∧ MS.ends listK k ini m = endMS listK st (l.map dp) K0.pk ∧ T = ini.length + 1 ∧ m.mg.length + m.row.length ≤ 5000 ∧ 0 < m.row.length ∧ ini.reverse.length ≤ 5000) := ⟨hM6, hk6, hL, hends, hT, r1, r2, by rw [List.length_reverse]; omega⟩
        have hmr : m.row.length ≤ 5000 := by omega
        have hmm : m.mg.length + m.row.length ≤ 100000 := by omega
        clear hM6 hk6 hL hends r1 r2
        cases ini with
        | nil =>
          have hi5 : ¬ (1 : Int) < (T : Int) := by rw [hT]; simp
          clear hT hil
          go_wp2_with fail
          refine (merge_ok B B k nx6 K0 X6 L6 M6 R6 (psS s) wr [] sp m (preL []) P H6.out.1 HSS.out.2.2.2.2.2.2.1 HSS.out.2.2.2.2.2.2.2.1 H6.out.2.2.1.line HM.out.2.2.2.2.2.1 HM.out.2.2.2.2.2.2.1 H6.out.2.2.2.2.2.2.1 hmr (by simp) hmm).mono ?_
          rintro e w6 ⟨rfl, ⟨X7, L7, R7, nx7, hM7⟩, hk7⟩
          have hS7 : psOf (psS s) [] sp (m.all listK k) = { finPS l st K0.pk with tk := [(sp, (m.all listK k).row)] } := by
            have h1 : m.all listK k = endMS listK st (l.map dp) K0.pk := H6.out.2.2.2.1
            unfold psOf finPS
            rw [h1, HEnd.out.1, HEnd.out.2]
            rfl
          rw [hS7] at hM7
          have hpos : 0 < (finPS l st K0.pk).vs.length := finPS_len l st K0.pk HSS.out.2.2.2.2.2.1
          obtain ⟨VL, hVL⟩ : ∃ VL, VL = (finPS l st K0.pk).vs.length := ⟨_, rfl⟩
          obtain ⟨vb, hva, -, -⟩ := hM7.viewB (a := 0) hpos
          obtain ⟨x0, c0', hL0, u0, -, -⟩ := hM7.viewAt (a := 0) hpos hva
          rw [← hL0] at u0
          have u00 : w6.cell? ⟨vb, 0, none⟩ = some (L7 0) := u0
          have q2 := hM7.c0.2.2.1
          rw [hva, show (⟨(finPS l st K0.pk).vs, [(sp, (m.all listK k).row)], (finPS l st K0.pk).pk, (finPS l st K0.pk).spn, (finPS l st K0.pk).mg, (finPS l st K0.pk).lk⟩ : PS).vs.length = VL from hVL.symm] at q2
          have hi6 : (0 : Int) < (VL : Int) := by omega
          have g7 : w6.cell? ⟨B, 7, none⟩ = some (.slice none 0 0) := hM7.cell 7
          have g8 : w6.cell? ⟨B, 8, none⟩ = some (.int .i64 0) := hM7.cell 8
          have f7 := hM7.free 7
          have f8 := hM7.free 8
          have hF := hM7.fin hpos
          have HF : Hid (RFin ((w6.setCell ⟨B, 7, none⟩ (L7 0)).setCell ⟨B, 8, none⟩ (.int .i64 VL)) w.heap.size B K0 X7 L7 M6 (finPS l st K0.pk) ∧ Keeps None w ((w6.setCell ⟨B, 7, none⟩ (L7 0)).setCell ⟨B, 8, none⟩ (.int .i64 VL))) := by
            rw [hVL, ← HB.out]
            refine ⟨⟨hF.vw, hF.mg, hF.c2, hF.c7, hF.c8, hF.c9, hF.c10⟩, ?_⟩
            exact (((H6.out.2.1.trans hk7 (fun i e _ => e)).andSet (x := ⟨B, 7, none⟩) (.inl (Nat.le_refl _)) _).andSet (x := ⟨B, 8, none⟩) (.inl (Nat.le_refl _)) _).mono (fun i e hi => by have h1 := HB.out; have h2 : B ≤ i := e; omega)
          obtain ⟨V0, hV0⟩ : ∃ V, V = L7 0 := ⟨_, rfl⟩
          rw [← hV0] at u00 HF
          have HV0 : Hid (∃ x c, V0 = .slice x (( finPS l st K0.pk).vs.getD 0 []).length c) := ⟨x0, c0', by rw [hV0]; exact hL0⟩
          clear hM7 hk7 hS7 hpos hva hL0 u0 hF hVL q3 hi5
          obtain ⟨x1, c1, hV1⟩ := HV0.out
          subst hV1
          generalize ((finPS l st K0.pk).vs.getD 0 []).length = N0 at *
          clear HV0 hV0
          go_wp2_with fail
          go_ret
          exact ⟨B, X7, L7, M6, rfl, HF.out.1, HF.out.2⟩
        | cons t ini =>
          have hi5 : (1 : Int) < (T : Int) := by rw [hT, List.length_cons]; omega
          clear hT
          go_wp2_with fail
          refine (merge_ok B B k nx6 K0 X6 L6 M6 R6 (psS s) wr (t :: ini).reverse sp m (preL (t :: ini)) P H6.out.1 HSS.out.2.2.2.2.2.2.1 HSS.out.2.2.2.2.2.2.2.1 H6.out.2.2.1.line HM.out.2.2.2.2.2.1 HM.out.2.2.2.2.2.2.1 H6.out.2.2.2.2.2.2.1 hmr H6.out.2.2.2.2.2.2.2 hmm).mono ?_
          rintro e w6 ⟨rfl, ⟨X7, L7, R7, nx7, hM7⟩, hk7⟩
          obtain ⟨J, hJ⟩ : ∃ J, J = (t :: ini).reverse.length := ⟨_, rfl⟩
          have hTJ : T = J + 1 := by rw [hJ, H6.out.2.2.2.2.1, List.length_reverse]
          have hJn : J ≤ 5000 := by rw [hJ]; exact H6.out.2.2.2.2.2.2.2
          obtain ⟨tb, hta, -, -, hcap, -, -, -⟩ := hM7.cur rfl
          rw [← hJ] at hcap
          have q36 := hM7.c0.2.2.2.1
          rw [hta, show (psOf (psS s) (t :: ini).reverse sp (m.all listK k)).tk.length = T by rw [hTJ, hJ]; simp [psOf]] at q36
          have hi9 : (J : Int) ≤ (X7.tc : Int) := by omega
          have hi10 : (J : Int) ≤ (T : Int) := by omega
          have H7 : Hid (PM w6 B B K0 X7 L7 M6 R7 nx7 (psOf (psS s) (t :: ini).reverse sp (m.all listK k)) ∧ Keeps (fun i => B ≤ i) w w6 ∧ J = (t :: ini).reverse.length ∧ J ≤ 5000) := ⟨hM7, H6.out.2.1.trans hk7 (fun i e _ => e), hJ, hJn⟩
          obtain ⟨y, cy, w5, hr5, hk5, hP5⟩ := (hM7.more (Keeps.drew None w6)).tasksCopy (J := J) rfl hJ (Nat.le_trans hJn (by decide)) hta
          have kA := (Keeps.drew None w6).andAlloc (.cells #[] 93)
          have q3A : (w6.alloc (.cells #[] 93)).cell? ⟨B, 3, none⟩ = some (.slice (some ⟨tb, 0, none⟩) T X7.tc) := kA.cell q36 (fun f => f)
          have k5 := (Keeps.drew None w6).trans hk5 (fun _ f _ => f)
          have hb5 := blk_kept hM7.blk k5 (fun f => f)
          have f3 : w5.frozen? ⟨B, 3, none⟩ = false := blk_free hb5 3
          have q35 : w5.cell? ⟨B, 3, none⟩ = some (.slice (some ⟨tb, 0, none⟩) T X7.tc) := k5.cell q36 (fun f => f)
          have hq := hP5.c0.2.2.2.1
          have HG : Hid ((∃ (X : RX) (L M R : Nat → Value) (nx sp : Nat) (ini : List (Nat × List Nat)) (m : MS (List Int)), PM (w5.setCell ⟨B, 3, none⟩ (.slice y J cy)) B B K0 X L M R nx (psOf (psS s) ini.reverse sp m) ∧ Left k P ini m ∧ MS.ends listK k ini m = endMS listK st (l.map dp) K0.pk ∧ ini.length ≤ 4999 ∧ Keeps (fun i => B ≤ i) w (w5.setCell ⟨B, 3, none⟩ (.slice y J cy))) ∧ cellLen ((w5.setCell ⟨B, 3, none⟩ (.slice y J cy)).cell? ⟨B, 3, none⟩) < cellLen (wr.cell? ⟨B, 3, none⟩)) := by
            refine ⟨⟨{ X7 with ta := y, tc := cy }, L7, M6, R7, nx7, t.1, ini, { m.all listK k with row := t.2 }, ?_, H6.out.2.2.1.next, H6.out.2.2.2.1, by rw [List.length_cons] at hil; omega, (keeps_tr H7.out.2.1 k5).andSet (x := ⟨B, 3, none⟩) (.inl (Nat.le_refl _)) _⟩, ?_⟩
            · have e5 : (t :: ini).reverse = ini.reverse ++ [(t.1, t.2)] := by rw [List.reverse_cons]
              rw [e5] at hP5
              exact hP5
            · have e6 : (⟨(m.all listK k).vs, (t :: ini).reverse, (m.all listK k).pk, (psS s).spn, (m.all listK k).mg, (psS s).lk⟩ : PS).tk.length = J := by rw [hJ]
              have hq2 : (w5.setCell ⟨B, 3, none⟩ (.slice y J cy)).cell? ⟨B, 3, none⟩ = some (.slice y J cy) := by
                rw [← e6]
                rw [← e6] at hq
                exact hq
              rw [hq2, q3]
              simp only [cellLen]
              omega
          have HL : Hid (∀ wx, Keeps None w6 wx → Calls Try.prog 42 #[.pointer (some ⟨B, 0, none⟩)] wx fun e w' => e = .returned (.int .i64 J) ∧ w' = wx) := fun wx hx => by
            have := last_ok B B nx7 K0 X7 L7 M6 R7 _ wx (t :: ini).reverse (sp, (m.all listK k).row) (H7.out.1.more hx) rfl (by rw [← H7.out.2.2.1]; exact Nat.le_trans H7.out.2.2.2 (by decide))
            rw [← H7.out.2.2.1] at this
            exact this
          have HKd : Hid (Keeps None w6 w6.drew ∧ Keeps None w6 (w6.drew.alloc (.cells #[] 93))) := ⟨Keeps.drew None w6, kA⟩
          clear hM7 hk7 hJ hTJ hJn hta hcap hk5 hP5 kA k5 hb5 hq q3 hi5 hil hmr hmm
          go_upto_region 10 with fail
          refine wp_region_held_drew (S := (fun _ => True)) (by kernel_rfl) ?_ (fun hHeld => ?_)
          · (try dsimp only); try trivial
          refine wpAnyH_take (i := 0) (oi := { dst := some 57, op := Op.move (Operand.tmp 11), type := 60, pos := "hyper.go:133", after := #[], guard := none }) (v := ?_) rfl (by kernel_rfl) (by kernel_rfl) (by kernel_rfl) (fun _ _ _ h => h) (Or.inl ⟨by rfl, ?_⟩) (by assumption) ?_
          rotate_left
          · (intro wz hSw; (try dsimp only at hSw); go_simp; try with_reducible rfl)
          simp only [Act.put, List.setIfInBounds_toArray, List.set_cons_zero, List.set_cons_succ]
          refine wpAnyH_take (i := 2) (oi := { dst := some 59, op := Op.move (Operand.tmp 11), type := 60, pos := "hyper.go:133", after := #[], guard := none }) (v := ?_) rfl (by kernel_rfl) (by kernel_rfl) (by kernel_rfl) (fun _ _ _ h => h) (Or.inl ⟨by rfl, ?_⟩) (by assumption) ?_
          rotate_left
          · (intro wz hSw; (try dsimp only at hSw); go_simp; try with_reducible rfl)
          simp only [Act.put, List.setIfInBounds_toArray, List.set_cons_zero, List.set_cons_succ]
          refine wpAnyH_take (i := 3) (oi := { dst := some 60, op := Op.nilCheck (Operand.tmp 59), type := 0, pos := "hyper.go:133", after := #[{ on := 2, ground := Ground.data }], guard := none }) (v := ?_) rfl (by kernel_rfl) (by kernel_rfl) (by kernel_rfl) (fun _ _ _ h => h) (Or.inl ⟨by rfl, ?_⟩) (by assumption) ?_
          rotate_left
          · (intro wz hSw; (try dsimp only at hSw); go_simp; try with_reducible rfl)
          simp only [Act.put, List.setIfInBounds_toArray, List.set_cons_zero, List.set_cons_succ]
          refine wpAnyH_take (i := 4) (oi := { dst := some 61, op := Op.fieldAddr 65 (Operand.tmp 60) 3, type := 0, pos := "hyper.go:133", after := #[{ on := 3, ground := Ground.data }], guard := none }) (v := ?_) rfl (by kernel_rfl) (by kernel_rfl) (by kernel_rfl) (fun _ _ _ h => h) (Or.inl ⟨by rfl, ?_⟩) (by assumption) ?_
          rotate_left
          · (intro wz hSw; (try dsimp only at hSw); go_simp; try with_reducible rfl)
          simp only [Act.put, List.setIfInBounds_toArray, List.set_cons_zero, List.set_cons_succ]
          refine wpAnyH_take (i := 6) (oi := { dst := some 63, op := Op.move (Operand.tmp 11), type := 60, pos := "hyper.go:133", after := #[], guard := none }) (v := ?_) rfl (by kernel_rfl) (by kernel_rfl) (by kernel_rfl) (fun _ _ _ h => h) (Or.inl ⟨by rfl, ?_⟩) (by assumption) ?_
          rotate_left
          · (intro wz hSw; (try dsimp only at hSw); go_simp; try with_reducible rfl)
          simp only [Act.put, List.setIfInBounds_toArray, List.set_cons_zero, List.set_cons_succ]
          refine wpAnyH_ready (rs := [1, 5, 7]) (by kernel_rfl) (by simp) ?_
          refine AllReadyH.cons (o := { dst := some 58, op := Op.buildSlice 63 0 #[], type := 63, pos := "hyper.go:133", after := #[], guard := none }) rfl (fun K hK => ?_) ?_
          · go_simp
            refine hK.out _ _ ?_ (fun hHeld2 => ?_)
            · (try dsimp only); try trivial
            clear hK K
            try simp only [Act.put, List.setIfInBounds_toArray, List.set_cons_zero, List.set_cons_succ]
            refine wpAnyH_ready (rs := [5, 7]) (by kernel_rfl) (by simp) ?_
            refine AllReadyH.cons (o := { dst := some 62, op := Op.load 63 (Operand.tmp 61), type := 63, pos := "hyper.go:133", after := #[{ on := 4, ground := Ground.data }], guard := none }) rfl (fun K hK => ?_) ?_
            · go_simp
              refine hK.out _ _ ?_ (fun hHeld2 => ?_)
              · (try dsimp only); try trivial
              clear hK K
              try simp only [Act.put, List.setIfInBounds_toArray, List.set_cons_zero, List.set_cons_succ]
              refine wpAnyH_ready (rs := [7]) (by kernel_rfl) (by simp) ?_
              refine AllReadyH.cons (o := { dst := some 64, op := Op.call { callee := Callee.value (Operand.func 42), args := #[Operand.tmp 63], argTypes := #[60] }, type := 3, pos := "hyper.go:133", after := #[{ on := 6, ground := Ground.data }], guard := none }) rfl (fun K hK => ?_) ?_
              · go_simp
                refine Calls.mono (HL.out _ (by first | exact HKd.out.1 | exact HKd.out.2)) ?_
                rintro _ wn ⟨rfl, rfl⟩
                refine hK.out _ _ ?_ (fun hHeld2 => ?_)
                · (try dsimp only); try trivial
                clear hK K
                try simp only [Act.put, List.setIfInBounds_toArray, List.set_cons_zero, List.set_cons_succ]
                refine wpAnyH_take (i := 8) (oi := { dst := some 65, op := Op.slice 63 (Operand.tmp 62) none (some (Operand.tmp 64)) none, type := 63, pos := "hyper.go:133", after := #[{ on := 5, ground := Ground.data }, { on := 7, ground := Ground.data }], guard := none }) (v := ?_) rfl (by kernel_rfl) (by kernel_rfl) (by kernel_rfl) (fun _ _ _ h => h) (Or.inl ⟨by rfl, ?_⟩) (by assumption) ?_
                rotate_left
                · (intro wz hSw; (try dsimp only at hSw); go_simp; try with_reducible rfl)
                simp only [Act.put, List.setIfInBounds_toArray, List.set_cons_zero, List.set_cons_succ]
                refine wpAnyH_ready (rs := [9]) (by kernel_rfl) (by simp) ?_
                refine AllReadyH.cons (o := { dst := some 66, op := Op.call { callee := Callee.builtin Builtin.append, args := #[Operand.tmp 58, Operand.tmp 65], argTypes := #[63, 63] }, type := 63, pos := "hyper.go:133", after := #[{ on := 1, ground := Ground.data }, { on := 8, ground := Ground.data }, { on := 7, ground := Ground.chain }], guard := none }) rfl (fun K hK => ?_) ?_
                · refine step_append_run rfl (.tmp 58) (.tmp 65) 63 63 rfl (by first | rfl | simp [Act.eval]) (by first | rfl | simp [Act.eval]) hr5 ?_
                  refine hK.out _ _ ?_ (fun hHeld2 => ?_)
                  · (try dsimp only); try trivial
                  clear hK K
                  try simp only [Act.put, List.setIfInBounds_toArray, List.set_cons_zero, List.set_cons_succ]
                  refine wpAnyH_take (i := 10) (oi := { dst := some 67, op := Op.nilCheck (Operand.tmp 57), type := 0, pos := "hyper.go:133", after := #[{ on := 0, ground := Ground.data }, { on := 0, ground := Ground.phase }, { on := 1, ground := Ground.phase }, { on := 2, ground := Ground.phase }, { on := 3, ground := Ground.phase }, { on := 4, ground := Ground.phase }, { on := 5, ground := Ground.phase }, { on := 6, ground := Ground.phase }, { on := 7, ground := Ground.phase }, { on := 8, ground := Ground.phase }, { on := 9, ground := Ground.phase }], guard := none }) (v := ?_) rfl (by kernel_rfl) (by kernel_rfl) (by kernel_rfl) (fun _ _ _ h => h) (Or.inl ⟨by rfl, ?_⟩) (by assumption) ?_
                  rotate_left
                  · (intro wz hSw; (try dsimp only at hSw); go_simp; try with_reducible rfl)
                  simp only [Act.put, List.setIfInBounds_toArray, List.set_cons_zero, List.set_cons_succ]
                  refine wpAnyH_take (i := 11) (oi := { dst := some 68, op := Op.fieldAddr 65 (Operand.tmp 67) 3, type := 0, pos := "hyper.go:133", after := #[{ on := 10, ground := Ground.data }, { on := 0, ground := Ground.phase }, { on := 1, ground := Ground.phase }, { on := 2, ground := Ground.phase }, { on := 3, ground := Ground.phase }, { on := 4, ground := Ground.phase }, { on := 5, ground := Ground.phase }, { on := 6, ground := Ground.phase }, { on := 7, ground := Ground.phase }, { on := 8, ground := Ground.phase }, { on := 9, ground := Ground.phase }], guard := none }) (v := ?_) rfl (by kernel_rfl) (by kernel_rfl) (by kernel_rfl) (fun _ _ _ h => h) (Or.inl ⟨by rfl, ?_⟩) (by assumption) ?_
                  rotate_left
                  · (intro wz hSw; (try dsimp only at hSw); go_simp; try with_reducible rfl)
                  simp only [Act.put, List.setIfInBounds_toArray, List.set_cons_zero, List.set_cons_succ]
                  refine wpAnyH_ready (rs := [12]) (by kernel_rfl) (by simp) ?_
                  refine AllReadyH.cons (o := { dst := none, op := Op.store 63 (Operand.tmp 68) (Operand.tmp 66), type := 0, pos := "hyper.go:133", after := #[{ on := 11, ground := Ground.data }, { on := 9, ground := Ground.data }, { on := 9, ground := Ground.chain }, { on := 0, ground := Ground.phase }, { on := 1, ground := Ground.phase }, { on := 2, ground := Ground.phase }, { on := 3, ground := Ground.phase }, { on := 4, ground := Ground.phase }, { on := 5, ground := Ground.phase }, { on := 6, ground := Ground.phase }, { on := 7, ground := Ground.phase }, { on := 8, ground := Ground.phase }, { on := 9, ground := Ground.phase }], guard := none }) rfl (fun K hK => ?_) ?_
                  · go_simp
                    refine hK.out _ _ ?_ (fun hHeld2 => ?_)
                    · (try dsimp only); try trivial
                    clear hK K
                    try simp only [Act.put, List.setIfInBounds_toArray, List.set_cons_zero, List.set_cons_succ]
                    refine wpAnyH_done (by kernel_rfl) ?_ _
                    go_wp2_with fail
                    exact HG.out
                  exact AllReadyH.nil
                exact AllReadyH.nil
              exact AllReadyH.nil
            refine AllReadyH.cons (o := { dst := some 64, op := Op.call { callee := Callee.value (Operand.func 42), args := #[Operand.tmp 63], argTypes := #[60] }, type := 3, pos := "hyper.go:133", after := #[{ on := 6, ground := Ground.data }], guard := none }) rfl (fun K hK => ?_) ?_
            · go_simp
              refine Calls.mono (HL.out _ (by first | exact HKd.out.1 | exact HKd.out.2)) ?_
              rintro _ wn ⟨rfl, rfl⟩
              refine hK.out _ _ ?_ (fun hHeld2 => ?_)
              · (try dsimp only); try trivial
              clear hK K
              try simp only [Act.put, List.setIfInBounds_toArray, List.set_cons_zero, List.set_cons_succ]
              refine wpAnyH_ready (rs := [5]) (by kernel_rfl) (by simp) ?_
              refine AllReadyH.cons (o := { dst := some 62, op := Op.load 63 (Operand.tmp 61), type := 63, pos := "hyper.go:133", after := #[{ on := 4, ground := Ground.data }], guard := none }) rfl (fun K hK => ?_) ?_
              · go_simp
                refine hK.out _ _ ?_ (fun hHeld2 => ?_)
                · (try dsimp only); try trivial
                clear hK K
                try simp only [Act.put, List.setIfInBounds_toArray, List.set_cons_zero, List.set_cons_succ]
                refine wpAnyH_take (i := 8) (oi := { dst := some 65, op := Op.slice 63 (Operand.tmp 62) none (some (Operand.tmp 64)) none, type := 63, pos := "hyper.go:133", after := #[{ on := 5, ground := Ground.data }, { on := 7, ground := Ground.data }], guard := none }) (v := ?_) rfl (by kernel_rfl) (by kernel_rfl) (by kernel_rfl) (fun _ _ _ h => h) (Or.inl ⟨by rfl, ?_⟩) (by assumption) ?_
                rotate_left
                · (intro wz hSw; (try dsimp only at hSw); go_simp; try with_reducible rfl)
                simp only [Act.put, List.setIfInBounds_toArray, List.set_cons_zero, List.set_cons_succ]
                refine wpAnyH_ready (rs := [9]) (by kernel_rfl) (by simp) ?_
                refine AllReadyH.cons (o := { dst := some 66, op := Op.call { callee := Callee.builtin Builtin.append, args := #[Operand.tmp 58, Operand.tmp 65], argTypes := #[63, 63] }, type := 63, pos := "hyper.go:133", after := #[{ on := 1, ground := Ground.data }, { on := 8, ground := Ground.data }, { on := 7, ground := Ground.chain }], guard := none }) rfl (fun K hK => ?_) ?_
                · refine step_append_run rfl (.tmp 58) (.tmp 65) 63 63 rfl (by first | rfl | simp [Act.eval]) (by first | rfl | simp [Act.eval]) hr5 ?_
                  refine hK.out _ _ ?_ (fun hHeld2 => ?_)
                  · (try dsimp only); try trivial
                  clear hK K
                  try simp only [Act.put, List.setIfInBounds_toArray, List.set_cons_zero, List.set_cons_succ]
                  refine wpAnyH_take (i := 10) (oi := { dst := some 67, op := Op.nilCheck (Operand.tmp 57), type := 0, pos := "hyper.go:133", after := #[{ on := 0, ground := Ground.data }, { on := 0, ground := Ground.phase }, { on := 1, ground := Ground.phase }, { on := 2, ground := Ground.phase }, { on := 3, ground := Ground.phase }, { on := 4, ground := Ground.phase }, { on := 5, ground := Ground.phase }, { on := 6, ground := Ground.phase }, { on := 7, ground := Ground.phase }, { on := 8, ground := Ground.phase }, { on := 9, ground := Ground.phase }], guard := none }) (v := ?_) rfl (by kernel_rfl) (by kernel_rfl) (by kernel_rfl) (fun _ _ _ h => h) (Or.inl ⟨by rfl, ?_⟩) (by assumption) ?_
                  rotate_left
                  · (intro wz hSw; (try dsimp only at hSw); go_simp; try with_reducible rfl)
                  simp only [Act.put, List.setIfInBounds_toArray, List.set_cons_zero, List.set_cons_succ]
                  refine wpAnyH_take (i := 11) (oi := { dst := some 68, op := Op.fieldAddr 65 (Operand.tmp 67) 3, type := 0, pos := "hyper.go:133", after := #[{ on := 10, ground := Ground.data }, { on := 0, ground := Ground.phase }, { on := 1, ground := Ground.phase }, { on := 2, ground := Ground.phase }, { on := 3, ground := Ground.phase }, { on := 4, ground := Ground.phase }, { on := 5, ground := Ground.phase }, { on := 6, ground := Ground.phase }, { on := 7, ground := Ground.phase }, { on := 8, ground := Ground.phase }, { on := 9, ground := Ground.phase }], guard := none }) (v := ?_) rfl (by kernel_rfl) (by kernel_rfl) (by kernel_rfl) (fun _ _ _ h => h) (Or.inl ⟨by rfl, ?_⟩) (by assumption) ?_
                  rotate_left
                  · (intro wz hSw; (try dsimp only at hSw); go_simp; try with_reducible rfl)
                  simp only [Act.put, List.setIfInBounds_toArray, List.set_cons_zero, List.set_cons_succ]
                  refine wpAnyH_ready (rs := [12]) (by kernel_rfl) (by simp) ?_
                  refine AllReadyH.cons (o := { dst := none, op := Op.store 63 (Operand.tmp 68) (Operand.tmp 66), type := 0, pos := "hyper.go:133", after := #[{ on := 11, ground := Ground.data }, { on := 9, ground := Ground.data }, { on := 9, ground := Ground.chain }, { on := 0, ground := Ground.phase }, { on := 1, ground := Ground.phase }, { on := 2, ground := Ground.phase }, { on := 3, ground := Ground.phase }, { on := 4, ground := Ground.phase }, { on := 5, ground := Ground.phase }, { on := 6, ground := Ground.phase }, { on := 7, ground := Ground.phase }, { on := 8, ground := Ground.phase }, { on := 9, ground := Ground.phase }], guard := none }) rfl (fun K hK => ?_) ?_
                  · go_simp
                    refine hK.out _ _ ?_ (fun hHeld2 => ?_)
                    · (try dsimp only); try trivial
                    clear hK K
                    try simp only [Act.put, List.setIfInBounds_toArray, List.set_cons_zero, List.set_cons_succ]
                    refine wpAnyH_done (by kernel_rfl) ?_ _
                    go_wp2_with fail
                    exact HG.out
                  exact AllReadyH.nil
                exact AllReadyH.nil
              exact AllReadyH.nil
            exact AllReadyH.nil
          refine AllReadyH.cons (o := { dst := some 62, op := Op.load 63 (Operand.tmp 61), type := 63, pos := "hyper.go:133", after := #[{ on := 4, ground := Ground.data }], guard := none }) rfl (fun K hK => ?_) ?_
          · go_simp
            refine hK.out _ _ ?_ (fun hHeld2 => ?_)
            · (try dsimp only); try trivial
            clear hK K
            try simp only [Act.put, List.setIfInBounds_toArray, List.set_cons_zero, List.set_cons_succ]
            refine wpAnyH_ready (rs := [1, 7]) (by kernel_rfl) (by simp) ?_
            refine AllReadyH.cons (o := { dst := some 58, op := Op.buildSlice 63 0 #[], type := 63, pos := "hyper.go:133", after := #[], guard := none }) rfl (fun K hK => ?_) ?_
            · go_simp
              refine hK.out _ _ ?_ (fun hHeld2 => ?_)
              · (try dsimp only); try trivial
              clear hK K
              try simp only [Act.put, List.setIfInBounds_toArray, List.set_cons_zero, List.set_cons_succ]
              refine wpAnyH_ready (rs := [7]) (by kernel_rfl) (by simp) ?_
              refine AllReadyH.cons (o := { dst := some 64, op := Op.call { callee := Callee.value (Operand.func 42), args := #[Operand.tmp 63], argTypes := #[60] }, type := 3, pos := "hyper.go:133", after := #[{ on := 6, ground := Ground.data }], guard := none }) rfl (fun K hK => ?_) ?_
              · go_simp
                refine Calls.mono (HL.out _ (by first | exact HKd.out.1 | exact HKd.out.2)) ?_
                rintro _ wn ⟨rfl, rfl⟩
                refine hK.out _ _ ?_ (fun hHeld2 => ?_)
                · (try dsimp only); try trivial
                clear hK K
                try simp only [Act.put, List.setIfInBounds_toArray, List.set_cons_zero, List.set_cons_succ]
                refine wpAnyH_take (i := 8) (oi := { dst := some 65, op := Op.slice 63 (Operand.tmp 62) none (some (Operand.tmp 64)) none, type := 63, pos := "hyper.go:133", after := #[{ on := 5, ground := Ground.data }, { on := 7, ground := Ground.data }], guard := none }) (v := ?_) rfl (by kernel_rfl) (by kernel_rfl) (by kernel_rfl) (fun _ _ _ h => h) (Or.inl ⟨by rfl, ?_⟩) (by assumption) ?_
                rotate_left
                · (intro wz hSw; (try dsimp only at hSw); go_simp; try with_reducible rfl)
                simp only [Act.put, List.setIfInBounds_toArray, List.set_cons_zero, List.set_cons_succ]
                refine wpAnyH_ready (rs := [9]) (by kernel_rfl) (by simp) ?_
                refine AllReadyH.cons (o := { dst := some 66, op := Op.call { callee := Callee.builtin Builtin.append, args := #[Operand.tmp 58, Operand.tmp 65], argTypes := #[63, 63] }, type := 63, pos := "hyper.go:133", after := #[{ on := 1, ground := Ground.data }, { on := 8, ground := Ground.data }, { on := 7, ground := Ground.chain }], guard := none }) rfl (fun K hK => ?_) ?_
                · refine step_append_run rfl (.tmp 58) (.tmp 65) 63 63 rfl (by first | rfl | simp [Act.eval]) (by first | rfl | simp [Act.eval]) hr5 ?_
                  refine hK.out _ _ ?_ (fun hHeld2 => ?_)
                  · (try dsimp only); try trivial
                  clear hK K
                  try simp only [Act.put, List.setIfInBounds_toArray, List.set_cons_zero, List.set_cons_succ]
                  refine wpAnyH_take (i := 10) (oi := { dst := some 67, op := Op.nilCheck (Operand.tmp 57), type := 0, pos := "hyper.go:133", after := #[{ on := 0, ground := Ground.data }, { on := 0, ground := Ground.phase }, { on := 1, ground := Ground.phase }, { on := 2, ground := Ground.phase }, { on := 3, ground := Ground.phase }, { on := 4, ground := Ground.phase }, { on := 5, ground := Ground.phase }, { on := 6, ground := Ground.phase }, { on := 7, ground := Ground.phase }, { on := 8, ground := Ground.phase }, { on := 9, ground := Ground.phase }], guard := none }) (v := ?_) rfl (by kernel_rfl) (by kernel_rfl) (by kernel_rfl) (fun _ _ _ h => h) (Or.inl ⟨by rfl, ?_⟩) (by assumption) ?_
                  rotate_left
                  · (intro wz hSw; (try dsimp only at hSw); go_simp; try with_reducible rfl)
                  simp only [Act.put, List.setIfInBounds_toArray, List.set_cons_zero, List.set_cons_succ]
                  refine wpAnyH_take (i := 11) (oi := { dst := some 68, op := Op.fieldAddr 65 (Operand.tmp 67) 3, type := 0, pos := "hyper.go:133", after := #[{ on := 10, ground := Ground.data }, { on := 0, ground := Ground.phase }, { on := 1, ground := Ground.phase }, { on := 2, ground := Ground.phase }, { on := 3, ground := Ground.phase }, { on := 4, ground := Ground.phase }, { on := 5, ground := Ground.phase }, { on := 6, ground := Ground.phase }, { on := 7, ground := Ground.phase }, { on := 8, ground := Ground.phase }, { on := 9, ground := Ground.phase }], guard := none }) (v := ?_) rfl (by kernel_rfl) (by kernel_rfl) (by kernel_rfl) (fun _ _ _ h => h) (Or.inl ⟨by rfl, ?_⟩) (by assumption) ?_
                  rotate_left
                  · (intro wz hSw; (try dsimp only at hSw); go_simp; try with_reducible rfl)
                  simp only [Act.put, List.setIfInBounds_toArray, List.set_cons_zero, List.set_cons_succ]
                  refine wpAnyH_ready (rs := [12]) (by kernel_rfl) (by simp) ?_
                  refine AllReadyH.cons (o := { dst := none, op := Op.store 63 (Operand.tmp 68) (Operand.tmp 66), type := 0, pos := "hyper.go:133", after := #[{ on := 11, ground := Ground.data }, { on := 9, ground := Ground.data }, { on := 9, ground := Ground.chain }, { on := 0, ground := Ground.phase }, { on := 1, ground := Ground.phase }, { on := 2, ground := Ground.phase }, { on := 3, ground := Ground.phase }, { on := 4, ground := Ground.phase }, { on := 5, ground := Ground.phase }, { on := 6, ground := Ground.phase }, { on := 7, ground := Ground.phase }, { on := 8, ground := Ground.phase }, { on := 9, ground := Ground.phase }], guard := none }) rfl (fun K hK => ?_) ?_
                  · go_simp
                    refine hK.out _ _ ?_ (fun hHeld2 => ?_)
                    · (try dsimp only); try trivial
                    clear hK K
                    try simp only [Act.put, List.setIfInBounds_toArray, List.set_cons_zero, List.set_cons_succ]
                    refine wpAnyH_done (by kernel_rfl) ?_ _
                    go_wp2_with fail
                    exact HG.out
                  exact AllReadyH.nil
                exact AllReadyH.nil
              exact AllReadyH.nil
            refine AllReadyH.cons (o := { dst := some 64, op := Op.call { callee := Callee.value (Operand.func 42), args := #[Operand.tmp 63], argTypes := #[60] }, type := 3, pos := "hyper.go:133", after := #[{ on := 6, ground := Ground.data }], guard := none }) rfl (fun K hK => ?_) ?_
            · go_simp
              refine Calls.mono (HL.out _ (by first | exact HKd.out.1 | exact HKd.out.2)) ?_
              rintro _ wn ⟨rfl, rfl⟩
              refine hK.out _ _ ?_ (fun hHeld2 => ?_)
              · (try dsimp only); try trivial
              clear hK K
              try simp only [Act.put, List.setIfInBounds_toArray, List.set_cons_zero, List.set_cons_succ]
              refine wpAnyH_take (i := 8) (oi := { dst := some 65, op := Op.slice 63 (Operand.tmp 62) none (some (Operand.tmp 64)) none, type := 63, pos := "hyper.go:133", after := #[{ on := 5, ground := Ground.data }, { on := 7, ground := Ground.data }], guard := none }) (v := ?_) rfl (by kernel_rfl) (by kernel_rfl) (by kernel_rfl) (fun _ _ _ h => h) (Or.inl ⟨by rfl, ?_⟩) (by assumption) ?_
              rotate_left
              · (intro wz hSw; (try dsimp only at hSw); go_simp; try with_reducible rfl)
              simp only [Act.put, List.setIfInBounds_toArray, List.set_cons_zero, List.set_cons_succ]
              refine wpAnyH_ready (rs := [1]) (by kernel_rfl) (by simp) ?_
              refine AllReadyH.cons (o := { dst := some 58, op := Op.buildSlice 63 0 #[], type := 63, pos := "hyper.go:133", after := #[], guard := none }) rfl (fun K hK => ?_) ?_
              · go_simp
                refine hK.out _ _ ?_ (fun hHeld2 => ?_)
                · (try dsimp only); try trivial
                clear hK K
                try simp only [Act.put, List.setIfInBounds_toArray, List.set_cons_zero, List.set_cons_succ]
                refine wpAnyH_ready (rs := [9]) (by kernel_rfl) (by simp) ?_
                refine AllReadyH.cons (o := { dst := some 66, op := Op.call { callee := Callee.builtin Builtin.append, args := #[Operand.tmp 58, Operand.tmp 65], argTypes := #[63, 63] }, type := 63, pos := "hyper.go:133", after := #[{ on := 1, ground := Ground.data }, { on := 8, ground := Ground.data }, { on := 7, ground := Ground.chain }], guard := none }) rfl (fun K hK => ?_) ?_
                · refine step_append_run rfl (.tmp 58) (.tmp 65) 63 63 rfl (by first | rfl | simp [Act.eval]) (by first | rfl | simp [Act.eval]) hr5 ?_
                  refine hK.out _ _ ?_ (fun hHeld2 => ?_)
                  · (try dsimp only); try trivial
                  clear hK K
                  try simp only [Act.put, List.setIfInBounds_toArray, List.set_cons_zero, List.set_cons_succ]
                  refine wpAnyH_take (i := 10) (oi := { dst := some 67, op := Op.nilCheck (Operand.tmp 57), type := 0, pos := "hyper.go:133", after := #[{ on := 0, ground := Ground.data }, { on := 0, ground := Ground.phase }, { on := 1, ground := Ground.phase }, { on := 2, ground := Ground.phase }, { on := 3, ground := Ground.phase }, { on := 4, ground := Ground.phase }, { on := 5, ground := Ground.phase }, { on := 6, ground := Ground.phase }, { on := 7, ground := Ground.phase }, { on := 8, ground := Ground.phase }, { on := 9, ground := Ground.phase }], guard := none }) (v := ?_) rfl (by kernel_rfl) (by kernel_rfl) (by kernel_rfl) (fun _ _ _ h => h) (Or.inl ⟨by rfl, ?_⟩) (by assumption) ?_
                  rotate_left
                  · (intro wz hSw; (try dsimp only at hSw); go_simp; try with_reducible rfl)
                  simp only [Act.put, List.setIfInBounds_toArray, List.set_cons_zero, List.set_cons_succ]
                  refine wpAnyH_take (i := 11) (oi := { dst := some 68, op := Op.fieldAddr 65 (Operand.tmp 67) 3, type := 0, pos := "hyper.go:133", after := #[{ on := 10, ground := Ground.data }, { on := 0, ground := Ground.phase }, { on := 1, ground := Ground.phase }, { on := 2, ground := Ground.phase }, { on := 3, ground := Ground.phase }, { on := 4, ground := Ground.phase }, { on := 5, ground := Ground.phase }, { on := 6, ground := Ground.phase }, { on := 7, ground := Ground.phase }, { on := 8, ground := Ground.phase }, { on := 9, ground := Ground.phase }], guard := none }) (v := ?_) rfl (by kernel_rfl) (by kernel_rfl) (by kernel_rfl) (fun _ _ _ h => h) (Or.inl ⟨by rfl, ?_⟩) (by assumption) ?_
                  rotate_left
                  · (intro wz hSw; (try dsimp only at hSw); go_simp; try with_reducible rfl)
                  simp only [Act.put, List.setIfInBounds_toArray, List.set_cons_zero, List.set_cons_succ]
                  refine wpAnyH_ready (rs := [12]) (by kernel_rfl) (by simp) ?_
                  refine AllReadyH.cons (o := { dst := none, op := Op.store 63 (Operand.tmp 68) (Operand.tmp 66), type := 0, pos := "hyper.go:133", after := #[{ on := 11, ground := Ground.data }, { on := 9, ground := Ground.data }, { on := 9, ground := Ground.chain }, { on := 0, ground := Ground.phase }, { on := 1, ground := Ground.phase }, { on := 2, ground := Ground.phase }, { on := 3, ground := Ground.phase }, { on := 4, ground := Ground.phase }, { on := 5, ground := Ground.phase }, { on := 6, ground := Ground.phase }, { on := 7, ground := Ground.phase }, { on := 8, ground := Ground.phase }, { on := 9, ground := Ground.phase }], guard := none }) rfl (fun K hK => ?_) ?_
                  · go_simp
                    refine hK.out _ _ ?_ (fun hHeld2 => ?_)
                    · (try dsimp only); try trivial
                    clear hK K
                    try simp only [Act.put, List.setIfInBounds_toArray, List.set_cons_zero, List.set_cons_succ]
                    refine wpAnyH_done (by kernel_rfl) ?_ _
                    go_wp2_with fail
                    exact HG.out
                  exact AllReadyH.nil
                exact AllReadyH.nil
              exact AllReadyH.nil
            exact AllReadyH.nil
          refine AllReadyH.cons (o := { dst := some 64, op := Op.call { callee := Callee.value (Operand.func 42), args := #[Operand.tmp 63], argTypes := #[60] }, type := 3, pos := "hyper.go:133", after := #[{ on := 6, ground := Ground.data }], guard := none }) rfl (fun K hK => ?_) ?_
          · go_simp
            refine Calls.mono (HL.out _ (by first | exact HKd.out.1 | exact HKd.out.2)) ?_
            rintro _ wn ⟨rfl, rfl⟩
            refine hK.out _ _ ?_ (fun hHeld2 => ?_)
            · (try dsimp only); try trivial
            clear hK K
            try simp only [Act.put, List.setIfInBounds_toArray, List.set_cons_zero, List.set_cons_succ]
            refine wpAnyH_ready (rs := [1, 5]) (by kernel_rfl) (by simp) ?_
            refine AllReadyH.cons (o := { dst := some 58, op := Op.buildSlice 63 0 #[], type := 63, pos := "hyper.go:133", after := #[], guard := none }) rfl (fun K hK => ?_) ?_
            · go_simp
              refine hK.out _ _ ?_ (fun hHeld2 => ?_)
              · (try dsimp only); try trivial
              clear hK K
              try simp only [Act.put, List.setIfInBounds_toArray, List.set_cons_zero, List.set_cons_succ]
              refine wpAnyH_ready (rs := [5]) (by kernel_rfl) (by simp) ?_
              refine AllReadyH.cons (o := { dst := some 62, op := Op.load 63 (Operand.tmp 61), type := 63, pos := "hyper.go:133", after := #[{ on := 4, ground := Ground.data }], guard := none }) rfl (fun K hK => ?_) ?_
              · go_simp
                refine hK.out _ _ ?_ (fun hHeld2 => ?_)
                · (try dsimp only); try trivial
                clear hK K
                try simp only [Act.put, List.setIfInBounds_toArray, List.set_cons_zero, List.set_cons_succ]
                refine wpAnyH_take (i := 8) (oi := { dst := some 65, op := Op.slice 63 (Operand.tmp 62) none (some (Operand.tmp 64)) none, type := 63, pos := "hyper.go:133", after := #[{ on := 5, ground := Ground.data }, { on := 7, ground := Ground.data }], guard := none }) (v := ?_) rfl (by kernel_rfl) (by kernel_rfl) (by kernel_rfl) (fun _ _ _ h => h) (Or.inl ⟨by rfl, ?_⟩) (by assumption) ?_
                rotate_left
                · (intro wz hSw; (try dsimp only at hSw); go_simp; try with_reducible rfl)
                simp only [Act.put, List.setIfInBounds_toArray, List.set_cons_zero, List.set_cons_succ]
                refine wpAnyH_ready (rs := [9]) (by kernel_rfl) (by simp) ?_
                refine AllReadyH.cons (o := { dst := some 66, op := Op.call { callee := Callee.builtin Builtin.append, args := #[Operand.tmp 58, Operand.tmp 65], argTypes := #[63, 63] }, type := 63, pos := "hyper.go:133", after := #[{ on := 1, ground := Ground.data }, { on := 8, ground := Ground.data }, { on := 7, ground := Ground.chain }], guard := none }) rfl (fun K hK => ?_) ?_
                · refine step_append_run rfl (.tmp 58) (.tmp 65) 63 63 rfl (by first | rfl | simp [Act.eval]) (by first | rfl | simp [Act.eval]) hr5 ?_
                  refine hK.out _ _ ?_ (fun hHeld2 => ?_)
                  · (try dsimp only); try trivial
                  clear hK K
                  try simp only [Act.put, List.setIfInBounds_toArray, List.set_cons_zero, List.set_cons_succ]
                  refine wpAnyH_take (i := 10) (oi := { dst := some 67, op := Op.nilCheck (Operand.tmp 57), type := 0, pos := "hyper.go:133", after := #[{ on := 0, ground := Ground.data }, { on := 0, ground := Ground.phase }, { on := 1, ground := Ground.phase }, { on := 2, ground := Ground.phase }, { on := 3, ground := Ground.phase }, { on := 4, ground := Ground.phase }, { on := 5, ground := Ground.phase }, { on := 6, ground := Ground.phase }, { on := 7, ground := Ground.phase }, { on := 8, ground := Ground.phase }, { on := 9, ground := Ground.phase }], guard := none }) (v := ?_) rfl (by kernel_rfl) (by kernel_rfl) (by kernel_rfl) (fun _ _ _ h => h) (Or.inl ⟨by rfl, ?_⟩) (by assumption) ?_
                  rotate_left
                  · (intro wz hSw; (try dsimp only at hSw); go_simp; try with_reducible rfl)
                  simp only [Act.put, List.setIfInBounds_toArray, List.set_cons_zero, List.set_cons_succ]
                  refine wpAnyH_take (i := 11) (oi := { dst := some 68, op := Op.fieldAddr 65 (Operand.tmp 67) 3, type := 0, pos := "hyper.go:133", after := #[{ on := 10, ground := Ground.data }, { on := 0, ground := Ground.phase }, { on := 1, ground := Ground.phase }, { on := 2, ground := Ground.phase }, { on := 3, ground := Ground.phase }, { on := 4, ground := Ground.phase }, { on := 5, ground := Ground.phase }, { on := 6, ground := Ground.phase }, { on := 7, ground := Ground.phase }, { on := 8, ground := Ground.phase }, { on := 9, ground := Ground.phase }], guard := none }) (v := ?_) rfl (by kernel_rfl) (by kernel_rfl) (by kernel_rfl) (fun _ _ _ h => h) (Or.inl ⟨by rfl, ?_⟩) (by assumption) ?_
                  rotate_left
                  · (intro wz hSw; (try dsimp only at hSw); go_simp; try with_reducible rfl)
                  simp only [Act.put, List.setIfInBounds_toArray, List.set_cons_zero, List.set_cons_succ]
                  refine wpAnyH_ready (rs := [12]) (by kernel_rfl) (by simp) ?_
                  refine AllReadyH.cons (o := { dst := none, op := Op.store 63 (Operand.tmp 68) (Operand.tmp 66), type := 0, pos := "hyper.go:133", after := #[{ on := 11, ground := Ground.data }, { on := 9, ground := Ground.data }, { on := 9, ground := Ground.chain }, { on := 0, ground := Ground.phase }, { on := 1, ground := Ground.phase }, { on := 2, ground := Ground.phase }, { on := 3, ground := Ground.phase }, { on := 4, ground := Ground.phase }, { on := 5, ground := Ground.phase }, { on := 6, ground := Ground.phase }, { on := 7, ground := Ground.phase }, { on := 8, ground := Ground.phase }, { on := 9, ground := Ground.phase }], guard := none }) rfl (fun K hK => ?_) ?_
                  · go_simp
                    refine hK.out _ _ ?_ (fun hHeld2 => ?_)
                    · (try dsimp only); try trivial
                    clear hK K
                    try simp only [Act.put, List.setIfInBounds_toArray, List.set_cons_zero, List.set_cons_succ]
                    refine wpAnyH_done (by kernel_rfl) ?_ _
                    go_wp2_with fail
                    exact HG.out
                  exact AllReadyH.nil
                exact AllReadyH.nil
              exact AllReadyH.nil
            refine AllReadyH.cons (o := { dst := some 62, op := Op.load 63 (Operand.tmp 61), type := 63, pos := "hyper.go:133", after := #[{ on := 4, ground := Ground.data }], guard := none }) rfl (fun K hK => ?_) ?_
            · go_simp
              refine hK.out _ _ ?_ (fun hHeld2 => ?_)
              · (try dsimp only); try trivial
              clear hK K
              try simp only [Act.put, List.setIfInBounds_toArray, List.set_cons_zero, List.set_cons_succ]
              refine wpAnyH_take (i := 8) (oi := { dst := some 65, op := Op.slice 63 (Operand.tmp 62) none (some (Operand.tmp 64)) none, type := 63, pos := "hyper.go:133", after := #[{ on := 5, ground := Ground.data }, { on := 7, ground := Ground.data }], guard := none }) (v := ?_) rfl (by kernel_rfl) (by kernel_rfl) (by kernel_rfl) (fun _ _ _ h => h) (Or.inl ⟨by rfl, ?_⟩) (by assumption) ?_
              rotate_left
              · (intro wz hSw; (try dsimp only at hSw); go_simp; try with_reducible rfl)
              simp only [Act.put, List.setIfInBounds_toArray, List.set_cons_zero, List.set_cons_succ]
              refine wpAnyH_ready (rs := [1]) (by kernel_rfl) (by simp) ?_
              refine AllReadyH.cons (o := { dst := some 58, op := Op.buildSlice 63 0 #[], type := 63, pos := "hyper.go:133", after := #[], guard := none }) rfl (fun K hK => ?_) ?_
              · go_simp
                refine hK.out _ _ ?_ (fun hHeld2 => ?_)
                · (try dsimp only); try trivial
                clear hK K
                try simp only [Act.put, List.setIfInBounds_toArray, List.set_cons_zero, List.set_cons_succ]
                refine wpAnyH_ready (rs := [9]) (by kernel_rfl) (by simp) ?_
                refine AllReadyH.cons (o := { dst := some 66, op := Op.call { callee := Callee.builtin Builtin.append, args := #[Operand.tmp 58, Operand.tmp 65], argTypes := #[63, 63] }, type := 63, pos := "hyper.go:133", after := #[{ on := 1, ground := Ground.data }, { on := 8, ground := Ground.data }, { on := 7, ground := Ground.chain }], guard := none }) rfl (fun K hK => ?_) ?_
                · refine step_append_run rfl (.tmp 58) (.tmp 65) 63 63 rfl (by first | rfl | simp [Act.eval]) (by first | rfl | simp [Act.eval]) hr5 ?_
                  refine hK.out _ _ ?_ (fun hHeld2 => ?_)
                  · (try dsimp only); try trivial
                  clear hK K
                  try simp only [Act.put, List.setIfInBounds_toArray, List.set_cons_zero, List.set_cons_succ]
                  refine wpAnyH_take (i := 10) (oi := { dst := some 67, op := Op.nilCheck (Operand.tmp 57), type := 0, pos := "hyper.go:133", after := #[{ on := 0, ground := Ground.data }, { on := 0, ground := Ground.phase }, { on := 1, ground := Ground.phase }, { on := 2, ground := Ground.phase }, { on := 3, ground := Ground.phase }, { on := 4, ground := Ground.phase }, { on := 5, ground := Ground.phase }, { on := 6, ground := Ground.phase }, { on := 7, ground := Ground.phase }, { on := 8, ground := Ground.phase }, { on := 9, ground := Ground.phase }], guard := none }) (v := ?_) rfl (by kernel_rfl) (by kernel_rfl) (by kernel_rfl) (fun _ _ _ h => h) (Or.inl ⟨by rfl, ?_⟩) (by assumption) ?_
                  rotate_left
                  · (intro wz hSw; (try dsimp only at hSw); go_simp; try with_reducible rfl)
                  simp only [Act.put, List.setIfInBounds_toArray, List.set_cons_zero, List.set_cons_succ]
                  refine wpAnyH_take (i := 11) (oi := { dst := some 68, op := Op.fieldAddr 65 (Operand.tmp 67) 3, type := 0, pos := "hyper.go:133", after := #[{ on := 10, ground := Ground.data }, { on := 0, ground := Ground.phase }, { on := 1, ground := Ground.phase }, { on := 2, ground := Ground.phase }, { on := 3, ground := Ground.phase }, { on := 4, ground := Ground.phase }, { on := 5, ground := Ground.phase }, { on := 6, ground := Ground.phase }, { on := 7, ground := Ground.phase }, { on := 8, ground := Ground.phase }, { on := 9, ground := Ground.phase }], guard := none }) (v := ?_) rfl (by kernel_rfl) (by kernel_rfl) (by kernel_rfl) (fun _ _ _ h => h) (Or.inl ⟨by rfl, ?_⟩) (by assumption) ?_
                  rotate_left
                  · (intro wz hSw; (try dsimp only at hSw); go_simp; try with_reducible rfl)
                  simp only [Act.put, List.setIfInBounds_toArray, List.set_cons_zero, List.set_cons_succ]
                  refine wpAnyH_ready (rs := [12]) (by kernel_rfl) (by simp) ?_
                  refine AllReadyH.cons (o := { dst := none, op := Op.store 63 (Operand.tmp 68) (Operand.tmp 66), type := 0, pos := "hyper.go:133", after := #[{ on := 11, ground := Ground.data }, { on := 9, ground := Ground.data }, { on := 9, ground := Ground.chain }, { on := 0, ground := Ground.phase }, { on := 1, ground := Ground.phase }, { on := 2, ground := Ground.phase }, { on := 3, ground := Ground.phase }, { on := 4, ground := Ground.phase }, { on := 5, ground := Ground.phase }, { on := 6, ground := Ground.phase }, { on := 7, ground := Ground.phase }, { on := 8, ground := Ground.phase }, { on := 9, ground := Ground.phase }], guard := none }) rfl (fun K hK => ?_) ?_
                  · go_simp
                    refine hK.out _ _ ?_ (fun hHeld2 => ?_)
                    · (try dsimp only); try trivial
                    clear hK K
                    try simp only [Act.put, List.setIfInBounds_toArray, List.set_cons_zero, List.set_cons_succ]
                    refine wpAnyH_done (by kernel_rfl) ?_ _
                    go_wp2_with fail
                    exact HG.out
                  exact AllReadyH.nil
                exact AllReadyH.nil
              exact AllReadyH.nil
            exact AllReadyH.nil
          exact AllReadyH.nil
end Go.Proofs.Ytdiabpoafennlab.Rn
