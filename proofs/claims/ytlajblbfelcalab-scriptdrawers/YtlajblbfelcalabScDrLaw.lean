import Derived.Test.YtlajblbfelcalabScDrRef
/-! ScriptDrawers. -/
namespace Go.Proofs.Ytlajblbfelcalab
set_option linter.unusedVariables false
set_option maxRecDepth 20000
open Go.RowKit Go.HeapKit Go.Sc

def Dw (w : World) (g : Nat) (val : Nat → Int) (lo hi k : Nat) : Prop := ∃ St, DrK (.pointer (some ⟨g, 0, none⟩)) St val lo hi ∧ St w k
theorem Dw.kept {S : Nat → Prop} {w w' : World} {g : Nat} {val : Nat → Int} {lo hi k : Nat} (h : Dw w g val lo hi k) (hk : Keeps S w w') (hS : ∀ x, lo ≤ x → x < hi → ¬ S x) : Dw w' g val lo hi k := by
  obtain ⟨St, hK, hs⟩ := h
  exact ⟨St, hK, hK.kept S w w' k hs hk hS⟩
theorem Dw.more {w w' : World} {g : Nat} {val : Nat → Int} {lo hi k : Nat} (h : Dw w g val lo hi k) (hk : Keeps None w w') : Dw w' g val lo hi k := h.kept hk (fun _ _ _ f => f)
theorem Dw.draw {w : World} {g : Nat} {val : Nat → Int} {lo hi k : Nat} (h : Dw w g val lo hi k) : Calls Try.prog 23 #[.pointer (some ⟨g, 0, none⟩)] w fun e w' => e = .returned (.int .i64 (val k)) ∧ Dw w' g val lo hi (k + 1) ∧ Keeps (fun x => lo ≤ x ∧ x < hi) w w' := by
  obtain ⟨St, hK, hs⟩ := h
  exact (hK.draw w k hs).mono fun e w' ⟨a, b, c⟩ => ⟨a, ⟨St, hK, b⟩, c⟩
structure Sx (w0 w : World) (p : Nat → Nat) (f : Nat → Nat → Int) (lo hi : Nat → Nat) (B N : Nat) (r : Nat → Value) (k : Nat → Nat) : Prop where
  d : ∀ i, i < 6 → Dw w (p i) (f i) (lo i) (hi i) (k i)
  rows : ∀ i, i < 6 → w.ownsRow B 3 1 (r i) N (iv (firstL (f i) N))
  ap : ∀ i j, i < 6 → j < 6 → i ≠ j → hi i ≤ lo j ∨ hi j ≤ lo i
  hb : ∀ i, i < 6 → hi i ≤ B
  lw : ∀ i, i < 6 → w0.heap.size ≤ lo i
  kp : Keeps None w0 w
theorem Sx.step {w0 w : World} {p : Nat → Nat} {f : Nat → Nat → Int} {lo hi : Nat → Nat} {B N : Nat} {r : Nat → Value} {k : Nat → Nat} (h : Sx w0 w p f lo hi B N r k) (i : Nat) (hi6 : i < 6) (g : Nat) (hg : p i = g) (v : Int) (hv : f i (k i) = v) :
    Calls Try.prog 23 #[.pointer (some ⟨g, 0, none⟩)] w fun e w' => e = .returned (.int .i64 v) ∧ Sx w0 w' p f lo hi B N r (upd k i (k i + 1)) := by
  subst hg hv
  refine (h.d i hi6).draw.mono ?_
  rintro _ w' ⟨rfl, h1, h2⟩
  refine ⟨rfl, ⟨fun j hj => ?_, fun j hj => row_kept (h.rows j hj) h2 (fun x e hx => ?_), h.ap, h.hb, h.lw, h.kp.trans h2 (fun x hx hlt => ?_)⟩⟩
  · unfold upd
    by_cases e : j = i
    · subst e; rw [if_pos rfl]; exact h1
    · rw [if_neg e]
      refine (h.d j hj).kept h2 (fun x a b c => ?_)
      rcases h.ap i j hi6 hj (fun q => e q.symm) with q | q <;> omega
  · have := row_low (h.rows j hj) e
    have := h.hb i hi6
    omega
  · have := h.lw i hi6
    omega
theorem Sx.congr {w0 w : World} {p : Nat → Nat} {f : Nat → Nat → Int} {lo hi : Nat → Nat} {B N : Nat} {r : Nat → Value} {k k' : Nat → Nat} (h : Sx w0 w p f lo hi B N r k) (e : ∀ i, i < 6 → k i = k' i) : Sx w0 w p f lo hi B N r k' :=
  ⟨fun i hi => by rw [← e i hi]; exact h.d i hi, h.rows, h.ap, h.hb, h.lw, h.kp⟩
def six {α : Type} (a b c d e f : α) (i : Nat) : α := if i = 0 then a else if i = 1 then b else if i = 2 then c else if i = 3 then d else if i = 4 then e else f
theorem six_all {α : Type} {P : Nat → α → Prop} {a b c d e f : α} (h0 : P 0 a) (h1 : P 1 b) (h2 : P 2 c) (h3 : P 3 d) (h4 : P 4 e) (h5 : P 5 f) : ∀ i, i < 6 → P i (six a b c d e f i) := by
  intro i hi
  match i, hi with
  | 0, _ => exact h0
  | 1, _ => exact h1
  | 2, _ => exact h2
  | 3, _ => exact h3
  | 4, _ => exact h4
  | 5, _ => exact h5
set_option maxHeartbeats 6400000 in
theorem scriptDrawers_walk (a : Option Addr) (m c : Nat) (s y : Int) (L : List Int) (w : World) (h : SeenN w a m L) (hm : m * 8 ≤ 140737488351232) (hs : okI s) :
    Calls Try.prog 7 #[.slice a m c, .int .i64 s, .int .i64 y] w fun e w' => e = .returned (.bool true) ∧ Below w.heap.size w w' := by
  have HS : Hid (SeenN w a m L ∧ okI s) := ⟨h, hs⟩
  obtain ⟨vl, wa, hr, hrow, hka⟩ := ints_copiedX a m c L w 23 h hm
  obtain ⟨la, lc, rfl⟩ := row_shape hrow
  have HA : Hid (wa.ownsRow w.heap.size 3 1 (.slice la m lc) m (iv L) ∧ Keeps None w wa) := ⟨hrow, hka⟩
  clear h hs hrow hka
  have hN0 := Int.emod_nonneg y (b := 301) (by omega)
  have hN1 := Int.emod_lt_of_pos y (b := 301) (by omega)
  obtain ⟨N, hN⟩ : ∃ N : Nat, (N : Int) = y % 301 := ⟨(y % 301).toNat, by omega⟩
  have HN : Hid (Go.PlainOps.modV y 301 = (N : Int)) := by
    unfold Go.PlainOps.modV
    rw [if_neg (by omega), hN]
    exact rfl
  have hN3 : N ≤ 300 := by omega
  clear hN hN0 hN1
  go_enter Try.func7, Try.ntmps7
  go_wp2_with fail
  refine (refMod_any y 301 _ (by omega)).mono ?_
  rintro _ wz ⟨rfl, hw⟩
  have hw2 := hw.symm
  subst hw2
  clear hw
  rw [HN.out]
  go_wp2_with (at_builtin; refine wpList_append_run rfl (.tmp 36) (.tmp 37) 23 23 rfl rfl rfl hr ?_)
  refine (list_any la m lc L _ (row_seen HA.out.1) hm).mono ?_
  rintro _ w1 ⟨g0, rfl, hd0, hk1⟩
  have H1 : Hid (Dw w1 g0 (listV L) wa.heap.size w1.heap.size 0 ∧ Keeps None wa w1) := ⟨hd0, hk1⟩
  clear hd0 hk1
  go_wp2_with fail
  refine (loop_any la m lc L _ (row_seen (row_more HA.out.1 H1.out.2)) hm).mono ?_
  rintro _ w2 ⟨g1, rfl, hd1, hk2⟩
  have H2 : Hid (Dw w2 g1 (loopV L) w1.heap.size w2.heap.size 0 ∧ Keeps None w1 w2) := ⟨hd1, hk2⟩
  clear hd1 hk2
  go_wp2_with fail
  refine (seeded_made s _).mono ?_
  rintro _ w3 ⟨g2, rfl, hd2, hk3⟩
  have H3 : Hid (Dw w3 g2 (fun k => num (seedK s (k + 1))) w2.heap.size w3.heap.size 0 ∧ Keeps None w2 w3) := ⟨hd2, hk3⟩
  clear hd2 hk3 hr
  have K3 : Hid (Keeps None w w3) := ((HA.out.2.trans H1.out.2 (fun _ f _ => f)).trans H2.out.2 (fun _ f _ => f)).trans H3.out.2 (fun _ f _ => f)
  go_wp2_with fail
  go_loopw [12, 11] (fun s12 s11 wr => ∃ (k : Nat) (l' : List Int), s12 = .int .i64 k ∧ k ≤ m ∧ wr.ownsRow w3.heap.size 3 1 s11 k (iv l') ∧ Keeps None w3 wr) (fun s12 _ _ => m - (intOf s12).toNat)
  case atStart => exact ⟨0, [], rfl, Nat.zero_le _, row_nil _ _ _ _, Keeps.refl _ _⟩
  case round =>
    obtain ⟨k, l', rfl, hk, hrow, hkp⟩ := hrel
    obtain ⟨sa, cs, rfl⟩ := row_shape hrow
    have hl := row_len hrow
    by_cases hkm : k < m
    · obtain ⟨b, off, x, rfl, he, c1⟩ := ((HS.out.1.more K3.out).more hkp).at (k := m - 1 - k) (by omega)
      have m0 : ¬ m = 0 := by omega
      have i1 : (k : Int) < (m : Int) := by omega
      obtain ⟨Q, hQ⟩ : ∃ Q, Q = m - 1 - k := ⟨_, rfl⟩
      rw [← hQ] at c1
      have i2 : (m : Int) - 1 - (k : Int) = (Q : Int) := by omega
      have i3 : (Q : Int) < (m : Int) := by omega
      obtain ⟨g, cp, w4, hr, ho, hk2, hm2⟩ := int_more w3.heap.size (.slice sa k cs) l' (wrap64 (x - 3)) k 23 wr.heap.size (wr.alloc (.cells #[.int .i64 (wrap64 (x - 3))] 3)) hl (row_more hrow (keeps1 _ _)) (by have := hkp.size; simp; omega) (by omega) (blk_new _ _ _ rfl)
      have HNN : Hid (w4.ownsRow w3.heap.size 3 1 (.slice (some ⟨g, 0, none⟩) (k + 1) cp) (k + 1) (iv (l' ++ [wrap64 (x - 3)])) ∧ Keeps None w3 w4) :=
        ⟨ho, (hkp.andAlloc _).trans hk2 (fun i e hi => by have := row_low hrow e; omega)⟩
      clear hrow hkp ho hk2 hm2 hl he hQ
      go_wp2_with (at_builtin; refine wpList_append_run rfl (.tmp 51) (.tmp 61) 23 23 rfl rfl rfl hr ?_)
      exact ⟨⟨k + 1, _, by go_num, by omega, HNN.out⟩, by simp [intOf]; omega⟩
    · have i1 : ¬ (k : Int) < (m : Int) := by omega
      obtain rfl : k = m := by omega
      obtain ⟨w4, hw4⟩ : ∃ w4, w4 = wr := ⟨_, rfl⟩
      rw [← hw4] at hrow hkp ⊢
      clear hw4
      have H4 : Hid (w4.ownsRow w3.heap.size 3 1 (.slice sa k cs) k (iv l') ∧ Keeps None w3 w4) := ⟨hrow, hkp⟩
      clear hrow hkp hl
      go_wp2_with fail
      refine (list_any sa k cs l' _ (row_seen H4.out.1) hm).mono ?_
      rintro _ w5 ⟨g3, rfl, hd3, hk5⟩
      have H5 : Hid (Dw w5 g3 (listV l') w4.heap.size w5.heap.size 0 ∧ Keeps None w4 w5) := ⟨hd3, hk5⟩
      clear hd3 hk5
      go_wp2_with fail
      refine (loop_any sa k cs l' _ (row_seen (row_more H4.out.1 H5.out.2)) hm).mono ?_
      rintro _ w6 ⟨g4, rfl, hd4, hk6⟩
      have H6 : Hid (Dw w6 g4 (loopV l') w5.heap.size w6.heap.size 0 ∧ Keeps None w5 w6) := ⟨hd4, hk6⟩
      clear hd4 hk6
      go_wp2_with fail
      refine (seeded_made (wrap64 (s + 1)) _).mono ?_
      rintro _ w7 ⟨g5, rfl, hd5, hk7⟩
      have H7 : Hid (Dw w7 g5 (fun k => num (seedK (wrap64 (s + 1)) (k + 1))) w6.heap.size w7.heap.size 0 ∧ Keeps None w6 w7) := ⟨hd5, hk7⟩
      clear hd5 hk7
      have K7 : Hid (Keeps None w4 w7) := (H5.out.2.trans H6.out.2 (fun _ f _ => f)).trans H7.out.2 (fun _ f _ => f)
      go_wp2_with fail
      refine (rlist_any sa k cs N l' _ (row_seen (row_more H4.out.1 K7.out)) (by omega) hm).mono ?_
      rintro _ w8 ⟨v8, rfl, hr8, hk8⟩
      have H8 : Hid (w8.ownsRow w7.heap.size 3 1 v8 N (iv (firstL (listV l') N)) ∧ Keeps None w7 w8) := ⟨hr8, hk8⟩
      clear hr8 hk8
      go_wp2_with fail
      refine (rloop_any sa k cs N l' _ (row_seen (row_more (row_more H4.out.1 K7.out) H8.out.2)) (by omega) hm).mono ?_
      rintro _ w9 ⟨v9, rfl, hr9, hk9⟩
      have H9 : Hid (w9.ownsRow w8.heap.size 3 1 v9 N (iv (firstL (loopV l') N)) ∧ Keeps None w8 w9) := ⟨hr9, hk9⟩
      clear hr9 hk9
      go_wp2_with fail
      refine (rseeded_any (wrap64 (s + 1)) N _ (wrap_ok _) (by omega)).mono ?_
      rintro _ w10 ⟨v10, rfl, hr10, hk10⟩
      have H10 : Hid (w10.ownsRow w9.heap.size 3 1 v10 N (iv (firstL (fun k => num (seedK (wrap64 (s + 1)) (k + 1))) N)) ∧ Keeps None w9 w10) := ⟨hr10, hk10⟩
      clear hr10 hk10
      have K10 : Hid (Keeps None w3 w10) := (((H4.out.2.trans K7.out (fun _ f _ => f)).trans H8.out.2 (fun _ f _ => f)).trans H9.out.2 (fun _ f _ => f)).trans H10.out.2 (fun _ f _ => f)
      obtain ⟨y8, d8, rfl⟩ := row_shape H8.out.1
      obtain ⟨y9, d9, rfl⟩ := row_shape H9.out.1
      obtain ⟨y10, d10, rfl⟩ := row_shape H10.out.1
      have KA10 : Hid (Keeps None wa w10) := ((H1.out.2.trans H2.out.2 (fun _ f _ => f)).trans H3.out.2 (fun _ f _ => f)).trans K10.out (fun _ f _ => f)
      have HG : Hid (∀ x, (Value.slice la k lc).ownBlock = some x → w.heap.size ≤ x ∧ x < wa.heap.size) := fun x e => ⟨row_low HA.out.1 e, own_lt HA.out.1 e⟩
      go_wp2_with fail
      go_loopw [19] (fun s19 wq => ∃ (i : Nat) (l2 : List Int), s19 = .int .i64 i ∧ i ≤ k ∧ wq.ownsRow w.heap.size 3 1 (.slice la k lc) k (iv l2) ∧ Keeps (fun x => w.heap.size ≤ x ∧ x < wa.heap.size) w10 wq) (fun s19 _ => k - (intOf s19).toNat)
      case atStart => exact ⟨0, L, rfl, Nat.zero_le _, row_more HA.out.1 KA10.out, Keeps.refl _ _⟩
      case round =>
        obtain ⟨i, l2, rfl, hi, hrow, hkp⟩ := hrel
        have hl := row_len hrow
        by_cases hik : i < k
        · obtain ⟨g, rfl, _, _, hnc, _, c1, fz⟩ := row_elem hrow (k := i) (x := l2[i]'(by omega)) (List.getElem?_eq_getElem _)
          have f1 := fz i
          generalize l2[i]'(by omega) = x0 at c1
          have hgr := HG.out g rfl
          have HN2 : Hid ((wr.setCell ⟨g, i, none⟩ (.int .i64 (wrap64 (x0 + 7)))).ownsRow w.heap.size 3 1 (.slice (some ⟨g, 0, none⟩) k lc) k (iv (l2.set i (wrap64 (x0 + 7)))) ∧ Keeps (fun x => w.heap.size ≤ x ∧ x < wa.heap.size) w10 (wr.setCell ⟨g, i, none⟩ (.int .i64 (wrap64 (x0 + 7))))) :=
            ⟨row_setI hrow i _, hkp.andSet (x := ⟨g, i, none⟩) (.inl hgr) _⟩
          have m0 : ¬ k = 0 := by omega
          have j1 : (i : Int) < (k : Int) := by omega
          clear hrow hkp hl fz hgr
          go_wp2_with fail
          exact ⟨⟨i + 1, _, by go_num, by omega, HN2.out⟩, by simp [intOf]; omega⟩
        · have j1 : ¬ (i : Int) < (k : Int) := by omega
          have H11 : Hid (Keeps (fun x => w.heap.size ≤ x ∧ x < wa.heap.size) w10 wr ∧ Keeps None w wr) := ⟨hkp, (HA.out.2.trans KA10.out (fun _ f _ => f)).trans hkp (fun x e hx => by omega)⟩
          clear hrow hkp hl
          go_wp2_with fail
          refine (rlist_any a k c N L _ (HS.out.1.more H11.out.2) (by omega) hm).mono ?_
          rintro _ w12 ⟨v12, rfl, hr12, hk12⟩
          obtain ⟨y12, d12, rfl⟩ := row_shape hr12
          have H12 : Hid (w12.ownsRow wr.heap.size 3 1 (.slice y12 N d12) N (iv (firstL (listV L) N)) ∧ Keeps None wr w12) := ⟨hr12, hk12⟩
          clear hr12 hk12
          go_wp2_with fail
          refine (rloop_any a k c N L _ ((HS.out.1.more H11.out.2).more H12.out.2) (by omega) hm).mono ?_
          rintro _ w13 ⟨v13, rfl, hr13, hk13⟩
          obtain ⟨y13, d13, rfl⟩ := row_shape hr13
          have H13 : Hid (w13.ownsRow w12.heap.size 3 1 (.slice y13 N d13) N (iv (firstL (loopV L) N)) ∧ Keeps None w12 w13) := ⟨hr13, hk13⟩
          clear hr13 hk13
          go_wp2_with fail
          refine (rseeded_any s N _ HS.out.2 (by omega)).mono ?_
          rintro _ w14 ⟨v14, rfl, hr14, hk14⟩
          obtain ⟨y14, d14, rfl⟩ := row_shape hr14
          have H14 : Hid (w14.ownsRow w13.heap.size 3 1 (.slice y14 N d14) N (iv (firstL (fun k => num (seedK s (k + 1))) N)) ∧ Keeps None w13 w14) := ⟨hr14, hk14⟩
          clear hr14 hk14
          obtain ⟨P, hP⟩ : ∃ P, P = six g0 g1 g2 g3 g4 g5 := ⟨_, rfl⟩
          obtain ⟨F, hF⟩ : ∃ F, F = six (listV L) (loopV L) (fun k => num (seedK s (k + 1))) (listV l') (loopV l') (fun k => num (seedK (wrap64 (s + 1)) (k + 1))) := ⟨_, rfl⟩
          obtain ⟨R, hR⟩ : ∃ R, R = six (Value.slice y12 N d12) (Value.slice y13 N d13) (Value.slice y14 N d14) (Value.slice y8 N d8) (Value.slice y9 N d9) (Value.slice y10 N d10) := ⟨_, rfl⟩
          have HX0 : Hid (Sx w w14 P F (six wa.heap.size w1.heap.size w2.heap.size w4.heap.size w5.heap.size w6.heap.size) (six w1.heap.size w2.heap.size w3.heap.size w5.heap.size w6.heap.size w7.heap.size) w7.heap.size N R (fun _ => 0)) := by
            have k10 : Keeps (fun x => w.heap.size ≤ x ∧ x < wa.heap.size) w10 w14 := ((H11.out.1.trans H12.out.2 (fun _ f _ => f.elim)).trans H13.out.2 (fun _ f _ => f.elim)).trans H14.out.2 (fun _ f _ => f.elim)
            have z0 := HA.out.2.size
            have z1 := H1.out.2.size
            have z2 := H2.out.2.size
            have z3 := H3.out.2.size
            have z4 := H4.out.2.size
            have z5 := H5.out.2.size
            have z6 := H6.out.2.size
            have z7 := H7.out.2.size
            have z8 := H8.out.2.size
            have z9 := H9.out.2.size
            have z10 := H10.out.2.size
            have z11 := H11.out.1.size
            have z12 := H12.out.2.size
            have z13 := H13.out.2.size
            have c7 : Keeps None w7 w10 := (H8.out.2.trans H9.out.2 (fun _ f _ => f)).trans H10.out.2 (fun _ f _ => f)
            have c6 : Keeps None w6 w10 := H7.out.2.trans c7 (fun _ f _ => f)
            have c5 : Keeps None w5 w10 := H6.out.2.trans c6 (fun _ f _ => f)
            have c2 : Keeps None w2 w10 := H3.out.2.trans K10.out (fun _ f _ => f)
            have c1 : Keeps None w1 w10 := H2.out.2.trans c2 (fun _ f _ => f)
            rw [hP, hF, hR]
            refine ⟨fun i hi => ?_, fun i hi => ?_, fun i j hi hj hne => ?_, fun i hi => ?_, fun i hi => ?_, H11.out.2.trans ((H12.out.2.trans H13.out.2 (fun _ f _ => f)).trans H14.out.2 (fun _ f _ => f)) (fun _ f _ => f)⟩
            · match i, hi with
              | 0, _ => exact (H1.out.1.more c1).kept k10 (fun x a b e => by omega)
              | 1, _ => exact (H2.out.1.more c2).kept k10 (fun x a b e => by omega)
              | 2, _ => exact (H3.out.1.more K10.out).kept k10 (fun x a b e => by omega)
              | 3, _ => exact (H5.out.1.more c5).kept k10 (fun x a b e => by omega)
              | 4, _ => exact (H6.out.1.more c6).kept k10 (fun x a b e => by omega)
              | 5, _ => exact (H7.out.1.more c7).kept k10 (fun x a b e => by omega)
            · match i, hi with
              | 0, _ => exact row_base (row_more (row_more H12.out.1 H13.out.2) H14.out.2) (by omega)
              | 1, _ => exact row_base (row_more H13.out.1 H14.out.2) (by omega)
              | 2, _ => exact row_base H14.out.1 (by omega)
              | 3, _ => exact row_kept (row_more (row_more H8.out.1 H9.out.2) H10.out.2) k10 (fun x e e2 => by have := row_low H8.out.1 e; omega)
              | 4, _ => exact row_base (row_kept (row_more H9.out.1 H10.out.2) k10 (fun x e e2 => by have := row_low H9.out.1 e; omega)) (by omega)
              | 5, _ => exact row_base (row_kept H10.out.1 k10 (fun x e e2 => by have := row_low H10.out.1 e; omega)) (by omega)
            · match i, hi, j, hj with
              | 0, _, 0, _ => omega
              | 1, _, 1, _ => omega
              | 2, _, 2, _ => omega
              | 3, _, 3, _ => omega
              | 4, _, 4, _ => omega
              | 5, _, 5, _ => omega
              | 0, _, 1, _ => first | (simp [six]; done) | (simp [six]; omega)
              | 0, _, 2, _ => first | (simp [six]; done) | (simp [six]; omega)
              | 0, _, 3, _ => first | (simp [six]; done) | (simp [six]; omega)
              | 0, _, 4, _ => first | (simp [six]; done) | (simp [six]; omega)
              | 0, _, 5, _ => first | (simp [six]; done) | (simp [six]; omega)
              | 1, _, 0, _ => first | (simp [six]; done) | (simp [six]; omega)
              | 1, _, 2, _ => first | (simp [six]; done) | (simp [six]; omega)
              | 1, _, 3, _ => first | (simp [six]; done) | (simp [six]; omega)
              | 1, _, 4, _ => first | (simp [six]; done) | (simp [six]; omega)
              | 1, _, 5, _ => first | (simp [six]; done) | (simp [six]; omega)
              | 2, _, 0, _ => first | (simp [six]; done) | (simp [six]; omega)
              | 2, _, 1, _ => first | (simp [six]; done) | (simp [six]; omega)
              | 2, _, 3, _ => first | (simp [six]; done) | (simp [six]; omega)
              | 2, _, 4, _ => first | (simp [six]; done) | (simp [six]; omega)
              | 2, _, 5, _ => first | (simp [six]; done) | (simp [six]; omega)
              | 3, _, 0, _ => first | (simp [six]; done) | (simp [six]; omega)
              | 3, _, 1, _ => first | (simp [six]; done) | (simp [six]; omega)
              | 3, _, 2, _ => first | (simp [six]; done) | (simp [six]; omega)
              | 3, _, 4, _ => first | (simp [six]; done) | (simp [six]; omega)
              | 3, _, 5, _ => first | (simp [six]; done) | (simp [six]; omega)
              | 4, _, 0, _ => first | (simp [six]; done) | (simp [six]; omega)
              | 4, _, 1, _ => first | (simp [six]; done) | (simp [six]; omega)
              | 4, _, 2, _ => first | (simp [six]; done) | (simp [six]; omega)
              | 4, _, 3, _ => first | (simp [six]; done) | (simp [six]; omega)
              | 4, _, 5, _ => first | (simp [six]; done) | (simp [six]; omega)
              | 5, _, 0, _ => first | (simp [six]; done) | (simp [six]; omega)
              | 5, _, 1, _ => first | (simp [six]; done) | (simp [six]; omega)
              | 5, _, 2, _ => first | (simp [six]; done) | (simp [six]; omega)
              | 5, _, 3, _ => first | (simp [six]; done) | (simp [six]; omega)
              | 5, _, 4, _ => first | (simp [six]; done) | (simp [six]; omega)
            · match i, hi with
              | 0, _ => first | (simp [six]; done) | (simp [six]; omega)
              | 1, _ => first | (simp [six]; done) | (simp [six]; omega)
              | 2, _ => first | (simp [six]; done) | (simp [six]; omega)
              | 3, _ => first | (simp [six]; done) | (simp [six]; omega)
              | 4, _ => first | (simp [six]; done) | (simp [six]; omega)
              | 5, _ => first | (simp [six]; done) | (simp [six]; omega)
            · match i, hi with
              | 0, _ => first | (simp [six]; done) | (simp [six]; omega)
              | 1, _ => first | (simp [six]; done) | (simp [six]; omega)
              | 2, _ => first | (simp [six]; done) | (simp [six]; omega)
              | 3, _ => first | (simp [six]; done) | (simp [six]; omega)
              | 4, _ => first | (simp [six]; done) | (simp [six]; omega)
              | 5, _ => first | (simp [six]; done) | (simp [six]; omega)
          have HPP : Hid (P = six g0 g1 g2 g3 g4 g5) := hP
          have HRR : Hid (R = six (Value.slice y12 N d12) (Value.slice y13 N d13) (Value.slice y14 N d14) (Value.slice y8 N d8) (Value.slice y9 N d9) (Value.slice y10 N d10)) := hR
          generalize six wa.heap.size w1.heap.size w2.heap.size w4.heap.size w5.heap.size w6.heap.size = lo at HX0
          generalize six w1.heap.size w2.heap.size w3.heap.size w5.heap.size w6.heap.size w7.heap.size = hh at HX0
          generalize w7.heap.size = B at HX0
          clear hP hF hR H1 H2 H3 H4 H5 H6 H7 H8 H9 H10 H11 H12 H13 H14 K7 K10 KA10 K3 HA HG HS
          go_wp2_with fail
          go_loopw [23, 24, 25, 26, 27, 28, 29] (fun s23 _ _ _ _ _ _ wq => ∃ i : Nat, s23 = .int .i64 i ∧ i ≤ N ∧ Sx w wq P F lo hh B N R (fun _ => i)) (fun s23 _ _ _ _ _ _ _ => N - (intOf s23).toNat)
          case atStart => exact ⟨0, rfl, Nat.zero_le _, HX0.out⟩
          case round =>
            obtain ⟨i, rfl, hi, hX⟩ := hrel
            have HX : Hid (Sx w wr P F lo hh B N R (fun _ => i)) := hX
            clear hX
            by_cases hiN : i < N
            · have q1 : (i : Int) < (N : Int) := by omega
              have n0 : ¬ N = 0 := by omega
              obtain ⟨U0, hU0⟩ : ∃ U, U = F 0 i := ⟨_, rfl⟩
              have HU0 : Hid (U0 = F 0 i) := hU0
              clear hU0
              obtain ⟨U1, hU1⟩ : ∃ U, U = F 1 i := ⟨_, rfl⟩
              have HU1 : Hid (U1 = F 1 i) := hU1
              clear hU1
              obtain ⟨U2, hU2⟩ : ∃ U, U = F 2 i := ⟨_, rfl⟩
              have HU2 : Hid (U2 = F 2 i) := hU2
              clear hU2
              obtain ⟨U3, hU3⟩ : ∃ U, U = F 3 i := ⟨_, rfl⟩
              have HU3 : Hid (U3 = F 3 i) := hU3
              clear hU3
              obtain ⟨U4, hU4⟩ : ∃ U, U = F 4 i := ⟨_, rfl⟩
              have HU4 : Hid (U4 = F 4 i) := hU4
              clear hU4
              obtain ⟨U5, hU5⟩ : ∃ U, U = F 5 i := ⟨_, rfl⟩
              have HU5 : Hid (U5 = F 5 i) := hU5
              clear hU5
              go_wp2_with fail
              refine (HX.out.step 0 (by omega) g0 (by rw [HPP.out]; rfl) U0 HU0.out.symm).mono ?_
              rintro _ wx0 ⟨rfl, hX0⟩
              have HX0' : Hid (Sx w wx0 P F lo hh B N R _) := hX0
              clear hX0
              go_wp2_with fail
              refine (HX0'.out.step 1 (by omega) g1 (by rw [HPP.out]; rfl) U1 HU1.out.symm).mono ?_
              rintro _ wx1 ⟨rfl, hX1⟩
              have HX1' : Hid (Sx w wx1 P F lo hh B N R _) := hX1
              clear hX1
              go_wp2_with fail
              refine (HX1'.out.step 2 (by omega) g2 (by rw [HPP.out]; rfl) U2 HU2.out.symm).mono ?_
              rintro _ wx2 ⟨rfl, hX2⟩
              have HX2' : Hid (Sx w wx2 P F lo hh B N R _) := hX2
              clear hX2
              go_wp2_with fail
              refine (HX2'.out.step 3 (by omega) g3 (by rw [HPP.out]; rfl) U3 HU3.out.symm).mono ?_
              rintro _ wx3 ⟨rfl, hX3⟩
              have HX3' : Hid (Sx w wx3 P F lo hh B N R _) := hX3
              clear hX3
              go_wp2_with fail
              refine (HX3'.out.step 4 (by omega) g4 (by rw [HPP.out]; rfl) U4 HU4.out.symm).mono ?_
              rintro _ wx4 ⟨rfl, hX4⟩
              have HX4' : Hid (Sx w wx4 P F lo hh B N R _) := hX4
              clear hX4
              go_wp2_with fail
              refine (HX4'.out.step 5 (by omega) g5 (by rw [HPP.out]; rfl) U5 HU5.out.symm).mono ?_
              rintro _ wx5 ⟨rfl, hX5⟩
              have HX5' : Hid (Sx w wx5 P F lo hh B N R _) := hX5
              clear hX5
              have HXF : Hid (Sx w wx5 P F lo hh B N R (fun _ => i + 1)) := HX5'.out.congr (fun j hj => by
                match j, hj with
                | 0, _ => rfl
                | 1, _ => rfl
                | 2, _ => rfl
                | 3, _ => rfl
                | 4, _ => rfl
                | 5, _ => rfl)
              obtain ⟨e0, rfl, _, _, _, _, z0, _⟩ := row_elem (show wx5.ownsRow B 3 1 (.slice y12 N d12) N (iv (firstL (F 0) N)) by have := HXF.out.rows 0 (by omega); rw [HRR.out] at this; exact this) (firstL_at (F 0) hiN)
              rw [← HU0.out] at z0
              have p0 : (U0 != U0) = false := by simp
              obtain ⟨e1, rfl, _, _, _, _, z1, _⟩ := row_elem (show wx5.ownsRow B 3 1 (.slice y13 N d13) N (iv (firstL (F 1) N)) by have := HXF.out.rows 1 (by omega); rw [HRR.out] at this; exact this) (firstL_at (F 1) hiN)
              rw [← HU1.out] at z1
              have p1 : (U1 != U1) = false := by simp
              obtain ⟨e2, rfl, _, _, _, _, z2, _⟩ := row_elem (show wx5.ownsRow B 3 1 (.slice y14 N d14) N (iv (firstL (F 2) N)) by have := HXF.out.rows 2 (by omega); rw [HRR.out] at this; exact this) (firstL_at (F 2) hiN)
              rw [← HU2.out] at z2
              have p2 : (U2 != U2) = false := by simp
              obtain ⟨e3, rfl, _, _, _, _, z3, _⟩ := row_elem (show wx5.ownsRow B 3 1 (.slice y8 N d8) N (iv (firstL (F 3) N)) by have := HXF.out.rows 3 (by omega); rw [HRR.out] at this; exact this) (firstL_at (F 3) hiN)
              rw [← HU3.out] at z3
              have p3 : (U3 != U3) = false := by simp
              obtain ⟨e4, rfl, _, _, _, _, z4, _⟩ := row_elem (show wx5.ownsRow B 3 1 (.slice y9 N d9) N (iv (firstL (F 4) N)) by have := HXF.out.rows 4 (by omega); rw [HRR.out] at this; exact this) (firstL_at (F 4) hiN)
              rw [← HU4.out] at z4
              have p4 : (U4 != U4) = false := by simp
              obtain ⟨e5, rfl, _, _, _, _, z5, _⟩ := row_elem (show wx5.ownsRow B 3 1 (.slice y10 N d10) N (iv (firstL (F 5) N)) by have := HXF.out.rows 5 (by omega); rw [HRR.out] at this; exact this) (firstL_at (F 5) hiN)
              rw [← HU5.out] at z5
              have p5 : (U5 != U5) = false := by simp
              go_wp2_with fail
              exact ⟨⟨i + 1, by go_num, by omega, HXF.out⟩, by simp [intOf]; omega⟩
            · have q1 : ¬ (i : Int) < (N : Int) := by omega
              have KF : Hid (Keeps None w wr) := HX.out.kp
              go_upto_region 38 with fail
              obtain ⟨gn, hgn⟩ : ∃ gn, gn = wr.heap.size := ⟨_, rfl⟩
              have hdn : IsD (wr.alloc (.cells #[.int .i64 0, .nilFunc] 51)) gn 0 .nilFunc := blk_new _ _ _ hgn.symm
              have hkn := keeps1 wr (.cells #[.int .i64 0, .nilFunc] 51)
              rw [← hgn]
              generalize wr.alloc (.cells #[.int .i64 0, .nilFunc] 51) = wn at *
              have HNN : Hid (IsD wn gn 0 .nilFunc ∧ Keeps None w wn) := ⟨hdn, KF.out.trans hkn (fun _ f _ => f)⟩
              clear hgn hdn hkn
              go_wp2_with fail
              refine (drawn_any (.pointer (some ⟨gn, 0, none⟩)) 2 _ (by omega) (fun wx hx => draw_none gn wx (HNN.out.1.more hx))).mono ?_
              rintro _ wp ⟨vp, rfl, hrp, hkp⟩
              obtain ⟨ap, cp, rfl⟩ := row_shape hrp
              have HPp : Hid (wp.ownsRow wn.heap.size 3 1 (.slice ap 2 cp) 2 (iv (firstL (fun _ => 0) 2)) ∧ Keeps None w wp) := ⟨hrp, HNN.out.2.trans hkp (fun _ f _ => f)⟩
              clear hrp hkp
              go_wp2_with fail
              refine (drawn_any (.pointer none) 2 _ (by omega) (fun wx hx => draw_nobody wx)).mono ?_
              rintro _ wt ⟨vt, rfl, hrt, hkt⟩
              obtain ⟨at', ct, rfl⟩ := row_shape hrt
              have r0 := row_more HPp.out.1 hkt
              obtain ⟨e0, rfl, _, _, _, _, z0, _⟩ := row_elem r0 (firstL_at (fun _ => 0) (show 0 < 2 by omega))
              obtain ⟨e0', ee, _, _, _, _, z1, _⟩ := row_elem r0 (firstL_at (fun _ => 0) (show 1 < 2 by omega))
              injection ee with ee
              injection ee with ee
              subst ee
              obtain ⟨e1, rfl, _, _, _, _, z2, _⟩ := row_elem hrt (firstL_at (fun _ => 0) (show 0 < 2 by omega))
              obtain ⟨e1', ee, _, _, _, _, z3, _⟩ := row_elem hrt (firstL_at (fun _ => 0) (show 1 < 2 by omega))
              injection ee with ee
              injection ee with ee
              subst ee
              have HF : Hid (Below w.heap.size w wt) := (HPp.out.2.trans hkt (fun _ f _ => f)).below _ (Nat.le_refl _) (fun _ f => f.elim)
              clear r0 hrt hkt HPp
              go_wp2_with fail
              go_ret
              exact ⟨rfl, HF.out⟩
end Go.Proofs.Ytlajblbfelcalab
