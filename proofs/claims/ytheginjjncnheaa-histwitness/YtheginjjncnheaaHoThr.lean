import Derived.Test.YtheginjjncnheaaHoNext
import Derived.Deep.RegionHeld3
import Derived.Deep.DeepCutAuto
/-! The search for an order: are all through; is a call in time? -/
namespace Go.Proofs.Ytheginjjncnheaa
set_option linter.unusedVariables false
set_option maxRecDepth 20000
set_option linter.unusedSimpArgs false
open Go.RowKit Go.HeapKit

theorem drewN_keeps (w : World) (m : Nat) : Keeps None w (w.drewN m) := ⟨rfl, rfl, rfl, Nat.le_refl _, fun _ _ _ => rfl⟩
def InC (l : List Cl) (x : C4) : Prop := ∀ i, i < 4 → x.at i ≤ (ownL l i).length
theorem thr_more (l : List Cl) (x : C4) (k : Nat) : thrB l x (k + 1) = (thrB l x k && thrI l x k) := by
  unfold thrB
  rw [List.range_succ, List.all_append]
  simp
theorem thr_not {l : List Cl} {x : C4} {k m : Nat} (hk : k < m) (h : thrI l x k = false) : thrB l x m = false := by
  cases e : thrB l x m with
  | false => rfl
  | true =>
    unfold thrB at e
    have := List.all_eq_true.1 e k (List.mem_range.2 hk)
    rw [h] at this
    cases this
theorem in_more (l : List Cl) (x : C4) (y : Cl) (k : Nat) : inB l x y (k + 1) = (inB l x y k && inI l x y k) := by
  unfold inB
  rw [List.range_succ, List.all_append]
  simp
theorem in_not {l : List Cl} {x : C4} {y : Cl} {k m : Nat} (hk : k < m) (h : inI l x y k = false) : inB l x y m = false := by
  cases e : inB l x y m with
  | false => rfl
  | true =>
    unfold inB at e
    have := List.all_eq_true.1 e k (List.mem_range.2 hk)
    rw [h] at this
    cases this
theorem thrI_none {l : List Cl} {x : C4} {i : Nat} (h : nxt l x i = none) : thrI l x i = true := by unfold thrI; rw [h]
theorem thrI_some {l : List Cl} {x : C4} {i q : Nat} {y : Cl} (h : nxt l x i = some (q : Int)) (hy : l[q]? = some y) : thrI l x i = decide (y.code = 0) := by unfold thrI; rw [h]; show decide ((clAt l ((q : Nat) : Int)).code = 0) = _; rw [clAt_of hy]
theorem inI_none {l : List Cl} {x : C4} {z : Cl} {i : Nat} (h : nxt l x i = none) : inI l x z i = true := by unfold inI; rw [h]
theorem inI_some {l : List Cl} {x : C4} {z : Cl} {i q : Nat} {y : Cl} (h : nxt l x i = some (q : Int)) (hy : l[q]? = some y) : inI l x z i = !aheadB y z := by unfold inI; rw [h]; show (!aheadB (clAt l ((q : Nat) : Int)) z) = _; rw [clAt_of hy]
/-- What the search reads. -/
structure SrR (w : World) (S : Nat) (a : Option Addr) (n c : Nat) (vs : Nat → Value) (mb : Nat) (tv : Value) (base : Nat) (l : List Cl) : Prop where
  sr : IsSr w S a n c vs mb tv
  made : Made w base vs l l.length
  seen : Seen w a n l
  few : l.length ≤ 40
theorem SrR.more {w w' : World} {S : Nat} {a : Option Addr} {n c : Nat} {vs : Nat → Value} {mb : Nat} {tv : Value} {base : Nat} {l : List Cl} (h : SrR w S a n c vs mb tv base l) (hk : Keeps None w w') : SrR w' S a n c vs mb tv base l := ⟨h.sr.more hk, h.made.more hk, h.seen.more hk, h.few⟩
theorem arr_cells {w : World} {X : Nat} {x : C4} {T : TypeId} (h : w.heap[X]? = some (.cells x.arr T (0, 0))) : w.cell? ⟨X, 0, none⟩ = some (.int .i64 (x.a : Int)) ∧ w.cell? ⟨X, 1, none⟩ = some (.int .i64 (x.b : Int)) ∧ w.cell? ⟨X, 2, none⟩ = some (.int .i64 (x.c : Int)) ∧ w.cell? ⟨X, 3, none⟩ = some (.int .i64 (x.d : Int)) :=
  ⟨(blk_cell h 0).trans rfl, (blk_cell h 1).trans rfl, (blk_cell h 2).trans rfl, (blk_cell h 3).trans rfl⟩
set_option maxHeartbeats 2000000 in
theorem through_ok (S : Nat) (a : Option Addr) (n c : Nat) (vs : Nat → Value) (mb : Nat) (tv : Value) (l : List Cl) (base : Nat) (x : C4) (w : World) (hR : SrR w S a n c vs mb tv base l) (hx : InC l x) :
    Calls Try.prog 21 #[.pointer (some ⟨S, 0, none⟩), .agg x.arr] w fun e w' => e = .returned (.bool (thrB l x 4)) ∧ Keeps None w w' := by
  have hal := Keeps.alloc None w (.cells x.arr 62)
  have bX := heap_alloc_new w (.cells x.arr 62)
  obtain ⟨W, hW⟩ : ∃ W, W = w.alloc (.cells x.arr 62) := ⟨_, rfl⟩
  obtain ⟨X, hX⟩ : ∃ X, X = w.heap.size := ⟨_, rfl⟩
  rw [← hW] at hal bX
  rw [← hX] at bX
  have HC : Hid (SrR W S a n c vs mb tv base l ∧ Keeps None w W ∧ W.heap[X]? = some (.cells x.arr 62 (0, 0)) ∧ InC l x) := ⟨hR.more hal, hal, bX, hx⟩
  obtain ⟨R, hRR⟩ : ∃ R, R = thrB l x 4 := ⟨_, rfl⟩
  have HR : Hid (R = thrB l x 4) := hRR
  rw [← hRR]
  clear hR hx hal bX hRR
  go_enter Try.func21, Try.ntmps21
  go_upto_region 1 with fail
  rw [← hW, ← hX]
  clear hW hX
  go_wp2_with fail
  go_loopw [8] (fun s8 wr => ∃ i : Nat, i ≤ 4 ∧ s8 = .int .i64 i ∧ thrB l x i = true ∧ Keeps None W wr) (fun i _ => 4 - (intOf i).toNat)
  case atStart => exact ⟨0, by omega, rfl, rfl, Keeps.refl _ _⟩
  case round =>
    obtain ⟨i, hi, rfl, ht, hkp⟩ := hrel
    by_cases hi4 : i < 4
    · have i1 : (i : Int) < 4 := by omega
      obtain ⟨x0, x1, x2, x3⟩ := arr_cells (blk_kept HC.out.2.2.1 hkp (fun f => f))
      have hnx := next_ok S a n c vs mb tv l base x i wr (HC.out.1.more hkp).sr (HC.out.1.more hkp).made HC.out.1.few hi4 (HC.out.2.2.2 i hi4)
      have HNX : Hid (Calls Try.prog 36 #[.pointer (some ⟨S, 0, none⟩), .agg #[.int .i64 x.a, .int .i64 x.b, .int .i64 x.c, .int .i64 x.d], .int .i64 (i : Int)] wr fun e w' => e = .returned (.tuple #[.int .i64 ((nxt l x i).getD 0), .bool (nxt l x i).isSome]) ∧ Keeps None wr w') := hnx
      have HT : Hid (thrB l x i = true ∧ Keeps None W wr) := ⟨ht, hkp⟩
      clear hnx ht hkp
      cases hn : nxt l x i with
      | none =>
        rw [hn] at HNX
        have HF : Hid (thrB l x (i + 1) = true) := by unfold Hid; rw [thr_more, HT.out.1, thrI_none hn]; rfl
        clear hn
        go_wp2_with (go_at_call 36; refine Calls.mono HNX.out ?_; rintro _ w4 ⟨rfl, hk4⟩; have H4 : Hid _ := hk4; clear hk4)
        exact ⟨⟨i + 1, by omega, by go_num, HF.out, HT.out.2.trans H4.out (fun _ f _ => f)⟩, by simp [intOf]; omega⟩
      | some j =>
        rw [hn] at HNX
        obtain ⟨q, rfl, hq, hqw⟩ := nxt_is hn
        have hnl := HC.out.1.seen.len
        obtain ⟨y, hy⟩ : ∃ y, l[q]? = some y := ⟨l[q], by simp⟩
        obtain ⟨bb, oo, rfl, _, _⟩ := HC.out.1.seen.ex (by omega)
        have i2 : (q : Int) < (n : Int) := by omega
        have hen := fun wx => ended_ok y wx
        have HEN : Hid _ := hen
        have hf := thrI_some hn hy
        have HY : Hid (l[q]? = some y) := hy
        by_cases hy0 : y.code = 0
        · have HF : Hid (thrB l x (i + 1) = true) := by unfold Hid; rw [thr_more, HT.out.1, hf, decide_eq_true hy0]; rfl
          have hd : decide (y.code ≠ 0) = false := by simp [hy0]
          rw [hd] at HEN
          clear hn hf hy0 hy hen hd hq hqw hnl
          go_wp2_with (first | (go_at_call 36; refine Calls.mono HNX.out ?_; rintro _ w4 ⟨rfl, hk4⟩; obtain ⟨bb', oo', e', hb', hcl⟩ := (HC.out.1.more (HT.out.2.trans hk4 (fun _ f _ => f))).seen.ex (by omega); injection e' with e'; injection e' with e1 e2; subst e1 e2; obtain ⟨y0, y1, y2, y3, y4, y5, y6⟩ := hcl q y HY.out; have s0 : w4.cell? ⟨S, 0, none⟩ = some (.slice (some ⟨bb, oo, none⟩) n c) := (blk_cell (HC.out.1.more (HT.out.2.trans hk4 (fun _ f _ => f))).sr.blk 0).trans rfl; have H4 : Hid _ := hk4; clear hk4 hcl hb') | (go_at_call 37; refine Calls.mono (HEN.out _) ?_; rintro _ w5 ⟨rfl, hk5⟩; have H5 : Hid _ := hk5; clear hk5))
          exact ⟨⟨i + 1, by omega, by go_num, HF.out, (HT.out.2.trans H4.out (fun _ f _ => f)).trans H5.out (fun _ f _ => f)⟩, by simp [intOf]; omega⟩
        · have HF : Hid (R = false) := by rw [HR.out]; exact thr_not hi4 (by rw [hf]; exact decide_eq_false hy0)
          have hd : decide (y.code ≠ 0) = true := by simp [hy0]
          rw [hd] at HEN
          clear hn hf hy0 hy hen hd hq hqw hnl
          go_wp2_with (first | (go_at_call 36; refine Calls.mono HNX.out ?_; rintro _ w4 ⟨rfl, hk4⟩; obtain ⟨bb', oo', e', hb', hcl⟩ := (HC.out.1.more (HT.out.2.trans hk4 (fun _ f _ => f))).seen.ex (by omega); injection e' with e'; injection e' with e1 e2; subst e1 e2; obtain ⟨y0, y1, y2, y3, y4, y5, y6⟩ := hcl q y HY.out; have s0 : w4.cell? ⟨S, 0, none⟩ = some (.slice (some ⟨bb, oo, none⟩) n c) := (blk_cell (HC.out.1.more (HT.out.2.trans hk4 (fun _ f _ => f))).sr.blk 0).trans rfl; have H4 : Hid _ := hk4; clear hk4 hcl hb') | (go_at_call 37; refine Calls.mono (HEN.out _) ?_; rintro _ w5 ⟨rfl, hk5⟩; have H5 : Hid _ := hk5; clear hk5))
          go_ret
          exact ⟨by rw [HF.out]; rfl, ((HC.out.2.1.trans HT.out.2 (fun _ f _ => f)).trans H4.out (fun _ f _ => f)).trans H5.out (fun _ f _ => f)⟩
    · have i1 : ¬ ((i : Int) < 4) := by omega
      have hi' : i = 4 := by omega
      subst hi'
      have HF : Hid (R = true ∧ Keeps None w wr) := ⟨HR.out.trans ht, HC.out.2.1.trans hkp (fun _ f _ => f)⟩
      clear ht hkp
      go_wp2_with fail
      go_ret
      exact ⟨by rw [HF.out.1]; rfl, HF.out.2⟩
set_option maxHeartbeats 2000000 in
theorem inTime_ok (S : Nat) (a : Option Addr) (n c : Nat) (vs : Nat → Value) (mb : Nat) (tv : Value) (l : List Cl) (base : Nat) (x : C4) (z : Cl) (w : World) (hR : SrR w S a n c vs mb tv base l) (hx : InC l x) :
    Calls Try.prog 38 #[.pointer (some ⟨S, 0, none⟩), .agg x.arr, .agg #[.int .i64 z.who, .int .i64 z.kind, .int .i64 z.arg, .int .i64 z.beg, .int .i64 z.fin, .int .i64 z.code, .int .i64 z.v]] w fun e w' => e = .returned (.bool (inB l x z 4)) ∧ Keeps None w w' := by
  have hal : Keeps None w ((w.alloc (.cells x.arr 62)).alloc (.cells #[.int .i64 z.who, .int .i64 z.kind, .int .i64 z.arg, .int .i64 z.beg, .int .i64 z.fin, .int .i64 z.code, .int .i64 z.v] 49)) := ((Keeps.refl _ w).andAlloc _).andAlloc _
  have bX := blk_kept (heap_alloc_new w (.cells x.arr 62)) (Keeps.alloc None (w.alloc (.cells x.arr 62)) (.cells #[.int .i64 z.who, .int .i64 z.kind, .int .i64 z.arg, .int .i64 z.beg, .int .i64 z.fin, .int .i64 z.code, .int .i64 z.v] 49)) (fun f => f)
  have bZ := heap_alloc_new (w.alloc (.cells x.arr 62)) (.cells #[.int .i64 z.who, .int .i64 z.kind, .int .i64 z.arg, .int .i64 z.beg, .int .i64 z.fin, .int .i64 z.code, .int .i64 z.v] 49)
  obtain ⟨W, hW⟩ : ∃ W, W = (w.alloc (.cells x.arr 62)).alloc (.cells #[.int .i64 z.who, .int .i64 z.kind, .int .i64 z.arg, .int .i64 z.beg, .int .i64 z.fin, .int .i64 z.code, .int .i64 z.v] 49) := ⟨_, rfl⟩
  obtain ⟨X, hX⟩ : ∃ X, X = w.heap.size := ⟨_, rfl⟩
  have sX : (w.alloc (.cells x.arr 62)).heap.size = X + 1 := by rw [hX]; simp
  rw [sX] at bZ
  rw [← hW] at hal bX bZ
  rw [← hX] at bX
  have HC : Hid (SrR W S a n c vs mb tv base l ∧ Keeps None w W ∧ W.heap[X]? = some (.cells x.arr 62 (0, 0)) ∧ InC l x ∧ W.heap[X + 1]? = some (.cells #[.int .i64 z.who, .int .i64 z.kind, .int .i64 z.arg, .int .i64 z.beg, .int .i64 z.fin, .int .i64 z.code, .int .i64 z.v] 49 (0, 0))) := ⟨hR.more hal, hal, bX, hx, bZ⟩
  obtain ⟨R, hRR⟩ : ∃ R, R = inB l x z 4 := ⟨_, rfl⟩
  have HR : Hid (R = inB l x z 4) := hRR
  rw [← hRR]
  clear hR hx hal bX hRR bZ sX
  go_enter Try.func38, Try.ntmps38
  go_upto_region 1 with fail
  change Code.wp _ _ _ _ ((w.alloc (.cells x.arr 62)).alloc (.cells #[.int .i64 z.who, .int .i64 z.kind, .int .i64 z.arg, .int .i64 z.beg, .int .i64 z.fin, .int .i64 z.code, .int .i64 z.v] 49))
  rw [← hW, ← hX]
  clear hW hX
  go_wp2_with fail
  go_loopw [10] (fun s10 wr => ∃ i : Nat, i ≤ 4 ∧ s10 = .int .i64 i ∧ inB l x z i = true ∧ Keeps None W wr) (fun i _ => 4 - (intOf i).toNat)
  case atStart => exact ⟨0, by omega, rfl, rfl, Keeps.refl _ _⟩
  case round =>
    obtain ⟨i, hi, rfl, ht, hkp⟩ := hrel
    by_cases hi4 : i < 4
    · have i1 : (i : Int) < 4 := by omega
      obtain ⟨x0, x1, x2, x3⟩ := arr_cells (blk_kept HC.out.2.2.1 hkp (fun f => f))
      have hnx := next_ok S a n c vs mb tv l base x i wr (HC.out.1.more hkp).sr (HC.out.1.more hkp).made HC.out.1.few hi4 (HC.out.2.2.2.1 i hi4)
      have HNX : Hid (Calls Try.prog 36 #[.pointer (some ⟨S, 0, none⟩), .agg #[.int .i64 x.a, .int .i64 x.b, .int .i64 x.c, .int .i64 x.d], .int .i64 (i : Int)] wr fun e w' => e = .returned (.tuple #[.int .i64 ((nxt l x i).getD 0), .bool (nxt l x i).isSome]) ∧ Keeps None wr w') := hnx
      have HT : Hid (inB l x z i = true ∧ Keeps None W wr) := ⟨ht, hkp⟩
      clear hnx ht hkp
      cases hn : nxt l x i with
      | none =>
        rw [hn] at HNX
        have HF : Hid (inB l x z (i + 1) = true) := by unfold Hid; rw [in_more, HT.out.1, inI_none hn]; rfl
        clear hn
        go_upto_region 5 with (go_at_call 36; refine Calls.mono HNX.out ?_; rintro _ w4 ⟨rfl, hk4⟩; have H4 : Hid _ := hk4; clear hk4)
        go_quiet (fail)
        go_wp2_with fail
        exact ⟨⟨i + 1, by omega, by go_num, HF.out, (HT.out.2.trans H4.out (fun _ f _ => f)).trans (drewN_keeps _ _) (fun _ f _ => f)⟩, by simp [intOf]; omega⟩
      | some j =>
        rw [hn] at HNX
        obtain ⟨q, rfl, hq, hqw⟩ := nxt_is hn
        have hnl := HC.out.1.seen.len
        obtain ⟨y, hy⟩ : ∃ y, l[q]? = some y := ⟨l[q], by simp⟩
        obtain ⟨bb, oo, rfl, _, _⟩ := HC.out.1.seen.ex (by omega)
        have i2 : (q : Int) < (n : Int) := by omega
        have hah := fun wx => ahead_ok y z wx
        have hf := inI_some (z := z) hn hy
        obtain ⟨ab, hab⟩ : ∃ ab, ab = aheadB y z := ⟨_, rfl⟩
        rw [← hab] at hah hf
        have HAH : Hid (∀ wx, Calls Try.prog 35 #[.agg #[.int .i64 y.who, .int .i64 y.kind, .int .i64 y.arg, .int .i64 y.beg, .int .i64 y.fin, .int .i64 y.code, .int .i64 y.v], .agg #[.int .i64 z.who, .int .i64 z.kind, .int .i64 z.arg, .int .i64 z.beg, .int .i64 z.fin, .int .i64 z.code, .int .i64 z.v]] wx fun e w' => e = .returned (.bool ab) ∧ Keeps None wx w') := hah
        have HF : Hid (inI l x z i = !ab) := hf
        have HY : Hid (l[q]? = some y) := hy
        clear hn hf hy hah hq hqw hnl hab
        go_upto_region 5 with (go_at_call 36; refine Calls.mono HNX.out ?_; rintro _ w4 ⟨rfl, hk4⟩)
        have k4 := HT.out.2.trans hk4 (fun _ f _ => f)
        obtain ⟨bb', oo', e', hb', hcl⟩ := (HC.out.1.more k4).seen.ex (by have := HC.out.1.seen.len; have := (List.getElem?_eq_some_iff.1 HY.out).1; omega)
        injection e' with e'
        injection e' with e1 e2
        subst e1 e2
        obtain ⟨y0, y1, y2, y3, y4, y5, y6⟩ := hcl q y HY.out
        have s0 : w4.cell? ⟨S, 0, none⟩ = some (.slice (some ⟨bb, oo, none⟩) n c) := (blk_cell (HC.out.1.more k4).sr.blk 0).trans rfl
        have bZ := blk_kept HC.out.2.2.2.2 k4 (fun f => f)
        have z0 : w4.cell? ⟨X + 1, 0, none⟩ = some (.int .i64 z.who) := (blk_cell bZ 0).trans rfl
        have z1 : w4.cell? ⟨X + 1, 1, none⟩ = some (.int .i64 z.kind) := (blk_cell bZ 1).trans rfl
        have z2 : w4.cell? ⟨X + 1, 2, none⟩ = some (.int .i64 z.arg) := (blk_cell bZ 2).trans rfl
        have z3 : w4.cell? ⟨X + 1, 3, none⟩ = some (.int .i64 z.beg) := (blk_cell bZ 3).trans rfl
        have z4 : w4.cell? ⟨X + 1, 4, none⟩ = some (.int .i64 z.fin) := (blk_cell bZ 4).trans rfl
        have z5 : w4.cell? ⟨X + 1, 5, none⟩ = some (.int .i64 z.code) := (blk_cell bZ 5).trans rfl
        have z6 : w4.cell? ⟨X + 1, 6, none⟩ = some (.int .i64 z.v) := (blk_cell bZ 6).trans rfl
        have H4 : Hid (Keeps None W w4) := k4
        have HSA : Hid (∀ w', Keeps None w4 w' → w'.cell? ⟨S, 0, none⟩ = some (.slice (some ⟨bb, oo, none⟩) n c) ∧ (w'.cell? ⟨bb, oo + q * 7, none⟩ = some (.int .i64 y.who) ∧ w'.cell? ⟨bb, oo + q * 7 + 1, none⟩ = some (.int .i64 y.kind) ∧ w'.cell? ⟨bb, oo + q * 7 + 2, none⟩ = some (.int .i64 y.arg) ∧ w'.cell? ⟨bb, oo + q * 7 + 3, none⟩ = some (.int .i64 y.beg) ∧ w'.cell? ⟨bb, oo + q * 7 + 4, none⟩ = some (.int .i64 y.fin) ∧ w'.cell? ⟨bb, oo + q * 7 + 5, none⟩ = some (.int .i64 y.code) ∧ w'.cell? ⟨bb, oo + q * 7 + 6, none⟩ = some (.int .i64 y.v)) ∧ w'.cell? ⟨X + 1, 0, none⟩ = some (.int .i64 z.who) ∧ w'.cell? ⟨X + 1, 1, none⟩ = some (.int .i64 z.kind) ∧ w'.cell? ⟨X + 1, 2, none⟩ = some (.int .i64 z.arg) ∧ w'.cell? ⟨X + 1, 3, none⟩ = some (.int .i64 z.beg) ∧ w'.cell? ⟨X + 1, 4, none⟩ = some (.int .i64 z.fin) ∧ w'.cell? ⟨X + 1, 5, none⟩ = some (.int .i64 z.code) ∧ w'.cell? ⟨X + 1, 6, none⟩ = some (.int .i64 z.v)) := fun w' hk => ⟨hk.cell s0 (fun f => f), ⟨hk.cell y0 (fun f => f), hk.cell y1 (fun f => f), hk.cell y2 (fun f => f), hk.cell y3 (fun f => f), hk.cell y4 (fun f => f), hk.cell y5 (fun f => f), hk.cell y6 (fun f => f)⟩, hk.cell z0 (fun f => f), hk.cell z1 (fun f => f), hk.cell z2 (fun f => f), hk.cell z3 (fun f => f), hk.cell z4 (fun f => f), hk.cell z5 (fun f => f), hk.cell z6 (fun f => f)⟩
        clear hk4 k4 hcl hb' bZ x0 x1 x2 x3
        go_cut [31] (fun s31 wx => s31 = .bool ab ∧ Keeps None w4 wx)
        case first =>
          go_region_held3 (fun w' => w'.cell? ⟨S, 0, none⟩ = some (.slice (some ⟨bb, oo, none⟩) n c) ∧ (w'.cell? ⟨bb, oo + q * 7, none⟩ = some (.int .i64 y.who) ∧ w'.cell? ⟨bb, oo + q * 7 + 1, none⟩ = some (.int .i64 y.kind) ∧ w'.cell? ⟨bb, oo + q * 7 + 2, none⟩ = some (.int .i64 y.arg) ∧ w'.cell? ⟨bb, oo + q * 7 + 3, none⟩ = some (.int .i64 y.beg) ∧ w'.cell? ⟨bb, oo + q * 7 + 4, none⟩ = some (.int .i64 y.fin) ∧ w'.cell? ⟨bb, oo + q * 7 + 5, none⟩ = some (.int .i64 y.code) ∧ w'.cell? ⟨bb, oo + q * 7 + 6, none⟩ = some (.int .i64 y.v)) ∧ w'.cell? ⟨X + 1, 0, none⟩ = some (.int .i64 z.who) ∧ w'.cell? ⟨X + 1, 1, none⟩ = some (.int .i64 z.kind) ∧ w'.cell? ⟨X + 1, 2, none⟩ = some (.int .i64 z.arg) ∧ w'.cell? ⟨X + 1, 3, none⟩ = some (.int .i64 z.beg) ∧ w'.cell? ⟨X + 1, 4, none⟩ = some (.int .i64 z.fin) ∧ w'.cell? ⟨X + 1, 5, none⟩ = some (.int .i64 z.code) ∧ w'.cell? ⟨X + 1, 6, none⟩ = some (.int .i64 z.v)) (first | exact hs2 | go_keep) (first | (go_at_call 35; refine Calls.mono (HAH.out _) ?_; rintro _ w5 ⟨rfl, hk5⟩; have hk6 : Keeps None w4 w5 := (Keeps.drew None w4).trans hk5 (fun _ f _ => f); have hs2 := HSA.out w5 hk6))
          all_goals (go_wp2_with fail; go_meet)
          all_goals exact ⟨rfl, hk6⟩
        case rest =>
          obtain ⟨rfl, hkc⟩ := hcut
          have H5 : Hid (Keeps None W wc) := H4.out.trans hkc (fun _ f _ => f)
          clear hkc HSA y0 y1 y2 y3 y4 y5 y6 s0 z0 z1 z2 z3 z4 z5 z6
          cases hab : ab with
          | false =>
            subst hab
            have HG : Hid (inB l x z (i + 1) = true) := by unfold Hid; rw [in_more, HT.out.1, HF.out]; rfl
            go_wp2_with fail
            exact ⟨⟨i + 1, by omega, by go_num, HG.out, H5.out⟩, by simp [intOf]; omega⟩
          | true =>
            subst hab
            have HG : Hid (R = false) := by rw [HR.out]; exact in_not hi4 HF.out
            go_wp2_with fail
            go_ret
            exact ⟨by rw [HG.out]; rfl, HC.out.2.1.trans H5.out (fun _ f _ => f)⟩
    · have i1 : ¬ ((i : Int) < 4) := by omega
      have hi' : i = 4 := by omega
      subst hi'
      have HF : Hid (R = true ∧ Keeps None w wr) := ⟨HR.out.trans ht, HC.out.2.1.trans hkp (fun _ f _ => f)⟩
      clear ht hkp
      go_wp2_with fail
      go_ret
      exact ⟨by rw [HF.out.1]; rfl, HF.out.2⟩
end Go.Proofs.Ytheginjjncnheaa
