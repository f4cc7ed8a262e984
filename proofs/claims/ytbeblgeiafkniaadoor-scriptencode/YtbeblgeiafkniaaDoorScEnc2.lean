import Derived.Test.YtbeblgeiafkniaaDoorScEnc
/-! writeRows, Encode. -/
namespace Go.Proofs.YtbeblgeiafkniaaDoor
set_option linter.unusedVariables false
set_option maxRecDepth 20000
open Go.RowKit Go.HeapKit Go.Sc

def lenOf : Value → Nat
  | .slice _ n _ => n
  | _ => 0
theorem drop_head {l : List Int} {x : Int} (h : l[0]? = some x) : ∃ t, l = x :: t := by
  cases l with
  | nil => cases h
  | cons y t => simp at h; subst h; exact ⟨t, rfl⟩
/-- What writeRows keeps. -/
structure WrI (w wr : World) (B b : Nat) (a : Option Addr) (n c : Nat) (l : List Int) (acc : List UInt8) : Prop where
  seen : SeenN wr a n l
  cap : n ≤ c
  low : 0 < n → ∀ x, a = some x → x.block < B
  ok : ∀ x ∈ l, okX x
  bd : IsBd wr B b acc
  bel : Below B w wr
  pow : PowIs wr
theorem WrI.on {w wr w' : World} {B b : Nat} {a : Option Addr} {n c : Nat} {l : List Int} {acc acc' : List UInt8} (h : WrI w wr B b a n c l acc) (hb : Below B wr w') (h0 : 0 < B) (hbd : IsBd w' B b acc') : WrI w w' B b a n c l acc' :=
  ⟨h.seen.below hb h.low, h.cap, h.low, h.ok, hbd, h.bel.trans hb, h.pow.below hb h0⟩
theorem WrI.drop {w wr : World} {B b b0 off n c k : Nat} {l : List Int} {acc : List UInt8} (h : WrI w wr B b (some ⟨b0, off, none⟩) n c l acc) (hk : k ≤ n) : WrI w wr B b (if c = k then some ⟨b0, off, none⟩ else some ⟨b0, off + k, none⟩) (n - k) (c - k) (l.drop k) acc := by
  have hc := h.cap
  refine ⟨h.seen.drop hk hc, by omega, fun h0 x hx => ?_, fun x hx => h.ok x (List.mem_of_mem_drop hx), h.bd, h.bel, h.pow⟩
  have h1 := h.low (by omega) _ rfl
  rw [if_neg (by omega)] at hx
  injection hx with hx
  subst hx
  exact h1
set_option maxHeartbeats 3200000 in
theorem writeRows_any (B b : Nat) (a : Option Addr) (n c : Nat) (l : List Int) (acc : List UInt8) (w : World) (h : WrI w w B b a n c l acc) (hn : n ≤ 1048576) (h0 : 0 < B) :
    Calls Tryd.prog 13 #[.pointer (some ⟨b, 0, none⟩), .slice a n c] w fun e w' => e = .returned (.tuple #[]) ∧ IsBd w' B b (tellV acc l) ∧ Below B w w' := by
  have HI : Hid (WrI w w B b a n c l acc) := h
  clear h
  go_enter Tryd.func13, Tryd.ntmps13
  go_wp2_with fail
  go_loopw [1] (fun s1 wr => ∃ (a' : Option Addr) (n' c' : Nat) (l' : List Int) (acc' : List UInt8), s1 = .slice a' n' c' ∧ WrI w wr B b a' n' c' l' acc' ∧ n' ≤ 1048576 ∧ tellV acc' l' = tellV acc l) (fun s1 _ => lenOf s1)
  case atStart => exact ⟨a, n, c, l, acc, rfl, HI.out, hn, rfl⟩
  case round =>
    obtain ⟨a', n', c', l', acc', rfl, hI, hn', hT⟩ := hrel
    have hl := hI.seen.len
    have hBw : B ≤ wr.heap.size := by have := hI.bd.lt; omega
    by_cases hn0 : 0 < n'
    · have i0 : (n' : Int) > 0 := by omega
      by_cases hacc : acc'.length ≤ 65536
      · have i1 : (acc'.length : Int) ≤ 65536 := by omega
        obtain ⟨b0, off, x, rfl, hx, c0⟩ := hI.seen.at (k := 0) hn0
        rw [Nat.add_zero] at c0
        have hok : okX x := hI.ok x (List.mem_of_getElem? hx)
        obtain ⟨t, ht⟩ := drop_head hx
        have hstep := tellV_step acc' x t hacc
        rw [← ht, hT] at hstep
        have hE := eqN_head x t
        rw [← ht] at hE
        have hE2 := eqN_le x l'
        have hil := itoa_len x hok
        obtain ⟨k, hk⟩ : ∃ k, k = eqN x l' := ⟨_, rfl⟩
        rw [← hk] at hstep hE hE2
        have hkl := itoa_len (k : Int) ⟨by omega, by omega⟩
        have hcap := hI.cap
        have hkb : k ≤ 1048576 := by omega
        have hkn : k ≤ n' := by omega
        have HW : Hid (WrI w wr B b (some ⟨b0, off, none⟩) n' c' l' acc') := hI
        have HX : Hid (l'[0]? = some x ∧ k = eqN x l' ∧ tellV acc l = tellV (acc' ++ rowB x k) (l'.drop k) ∧ n' = l'.length) := ⟨hx, hk, hstep, hl⟩
        have m0 : ¬ n' = 0 := by omega
        clear hI hT hx hk hstep hl ht
        go_wp2_with fail
        refine (blen B b acc' _ HW.out.bd).mono ?_
        rintro e wz ⟨rfl, hw⟩
        have hw2 := hw.symm
        subst hw2
        clear hw
        go_wp2_with fail
        refine (row_any _ n' c' x l' _ HW.out.seen HX.out.1 hn').mono ?_
        rintro e wz ⟨rfl, hw⟩
        have hw2 := hw.symm
        subst hw2
        clear hw
        rw [← HX.out.2.1]
        go_wp2_with fail
        refine (format_any x _ hok.1 hok.2 HW.out.pow).mono ?_
        rintro e w1 ⟨rfl, hb1⟩
        have H1 : Hid (WrI w w1 B b (some ⟨b0, off, none⟩) n' c' l' acc' ∧ B ≤ w1.heap.size) := ⟨HW.out.on (hb1.mono hBw) h0 (HW.out.bd.up hb1), by have := hb1.size; omega⟩
        clear hb1
        go_wp2_with fail
        rw [cat_one]
        refine (bwrite B b acc' (32 :: Lib.itoa x) _ H1.out.1.bd (by simp; omega) H1.out.2).mono ?_
        rintro e w2 ⟨rfl, hd2, hb2⟩
        have H2 : Hid (WrI w w2 B b (some ⟨b0, off, none⟩) n' c' l' (acc' ++ (32 :: Lib.itoa x)) ∧ B ≤ w2.heap.size) := ⟨H1.out.1.on hb2 h0 hd2, by have := hb2.size; have := H1.out.2; omega⟩
        clear hd2 hb2
        by_cases hk1 : 1 < k
        · have i2 : (k : Int) > 1 := by omega
          have e2 : rowB x k = (32 :: Lib.itoa x) ++ (42 :: Lib.itoa k) := by unfold rowB; rw [if_pos hk1]
          have HE2 : Hid (rowB x k = (32 :: Lib.itoa x) ++ (42 :: Lib.itoa k)) := e2
          clear e2
          go_wp2_with fail
          refine (format_any (k : Int) _ (by omega) (by omega) H2.out.1.pow).mono ?_
          rintro e w3 ⟨rfl, hb3⟩
          have H3 : Hid (WrI w w3 B b (some ⟨b0, off, none⟩) n' c' l' (acc' ++ (32 :: Lib.itoa x)) ∧ B ≤ w3.heap.size) := ⟨H2.out.1.on (hb3.mono H2.out.2) h0 (H2.out.1.bd.up hb3), by have := hb3.size; have := H2.out.2; omega⟩
          clear hb3
          go_wp2_with fail
          rw [cat_one]
          refine (bwrite B b _ (42 :: Lib.itoa k) _ H3.out.1.bd (by simp; omega) H3.out.2).mono ?_
          rintro e w4 ⟨rfl, hd4, hb4⟩
          have H4 : Hid (WrI w w4 B b (some ⟨b0, off, none⟩) n' c' l' (acc' ++ rowB x k)) := by
            have := H3.out.1.on hb4 h0 hd4
            rw [List.append_assoc, ← HE2.out] at this
            exact this
          clear hd4 hb4
          have i3 : (k : Int) ≤ (n' : Int) := by have := HX.out.2.2.2; omega
          go_wp2_with fail
          exact ⟨⟨_, _, _, _, _, rfl, H4.out.drop hkn, by omega, HX.out.2.2.1.symm⟩, by simp [lenOf]; omega⟩
        · have i2 : ¬ (k : Int) > 1 := by omega
          have HE2 : Hid (rowB x k = (32 :: Lib.itoa x)) := by
            unfold rowB
            rw [if_neg hk1, List.append_nil]
            exact rfl
          have H4 : Hid (WrI w w2 B b (some ⟨b0, off, none⟩) n' c' l' (acc' ++ rowB x k)) := by
            rw [HE2.out]
            exact H2.out.1
          have i3 : (k : Int) ≤ (n' : Int) := by omega
          go_wp2_with fail
          exact ⟨⟨_, _, _, _, _, rfl, H4.out.drop hkn, by omega, HX.out.2.2.1.symm⟩, by simp [lenOf]; omega⟩
      · have i1 : ¬ (acc'.length : Int) ≤ 65536 := by omega
        have HT : Hid (acc' = tellV acc l ∧ IsBd wr B b acc' ∧ Below B w wr) := ⟨by rw [← hT]; exact (tellV_long _ _ (by omega)).symm, hI.bd, hI.bel⟩
        clear hT hI
        go_wp2_with fail
        refine (blen B b acc' _ HT.out.2.1).mono ?_
        rintro e wz ⟨rfl, hw⟩
        have hw2 := hw.symm
        subst hw2
        clear hw
        go_wp2_with fail
        go_end0
        exact ⟨rfl, HT.out.1 ▸ HT.out.2.1, HT.out.2.2⟩
    · have i0 : ¬ (n' : Int) > 0 := by omega
      have hnil : l' = [] := List.eq_nil_of_length_eq_zero (by omega)
      subst hnil
      have HT : Hid (acc' = tellV acc l ∧ IsBd wr B b acc' ∧ Below B w wr) := ⟨by rw [← hT]; rfl, hI.bd, hI.bel⟩
      clear hT hI
      go_wp2_with fail
      go_end0
      exact ⟨rfl, HT.out.1 ▸ HT.out.2.1, HT.out.2.2⟩
theorem alloc_size (w : World) (o : Obj) : (w.alloc o).heap.size = w.heap.size + 1 := by simp
theorem WrI.next {w wr w' : World} {B b : Nat} {acc acc' : List UInt8} {a : Option Addr} {n c : Nat} {l : List Int} (h : WrI w wr B b a n c l acc) (hb : Below B wr w') (h0 : 0 < B) (hbd : IsBd w' B b acc') : WrI w' w' B b a n c l acc' :=
  ⟨h.seen.below hb h.low, h.cap, h.low, h.ok, hbd, Below.refl _ _, h.pow.below hb h0⟩
structure EncI (w wk : World) (p : Nat) (a a2 : Option Addr) (n c n2 c2 : Nat) (l l2 : List Int) (acc : List UInt8) : Prop where
  w1 : WrI wk wk (p + 1) (p + 1) a n c l acc
  w2 : WrI wk wk (p + 1) (p + 1) a2 n2 c2 l2 acc
  box : wk.heap[p]? = some (.cells #[.slice a n c, .slice a2 n2 c2] 24 (0, 0))
  bel : Below p w wk
theorem EncI.on {w wk w' : World} {p : Nat} {a a2 : Option Addr} {n c n2 c2 : Nat} {l l2 : List Int} {acc acc' : List UInt8} (h : EncI w wk p a a2 n c n2 c2 l l2 acc) (hb : Below (p + 1) wk w') (hbd : IsBd w' (p + 1) (p + 1) acc') : EncI w w' p a a2 n c n2 c2 l l2 acc' :=
  ⟨h.w1.next hb (by omega) hbd, h.w2.next hb (by omega) hbd, (hb.block p (by omega)).trans h.box, h.bel.trans (hb.mono (by omega))⟩
section
variable (a a2 : Option Addr) (n c n2 c2 : Nat) (l l2 : List Int) (w : World) (h : SeenN w a n l) (h2 : SeenN w a2 n2 l2) (hc : n ≤ c) (hc2 : n2 ≤ c2) (ok : ∀ x ∈ l, okX x) (ok2 : ∀ x ∈ l2, okX x) (hP : PowIs w)
include h h2 hc hc2 ok ok2 hP
set_option maxHeartbeats 3200000 in
theorem enc_any :
    Calls Tryd.prog 6 #[.agg #[.slice a n c, .slice a2 n2 c2]] w fun e w' => e = .returned (.tuple #[.string ⟨(encT l l2).toArray⟩, .int .i64 (encE l l2)]) ∧ Below w.heap.size w w' := by
  have hl := h.len
  have hl2 := h2.len
  by_cases hbig : 1048576 < n ∨ 1048576 < n2
  · have e1 : encT l l2 = [] := by unfold encT; rw [if_pos (by omega)]
    have e2 : encE l l2 = 2 := by unfold encE; rw [if_pos (by omega)]
    rw [e1, e2]
    have HB : Hid (Below w.heap.size w (w.alloc (.cells #[.slice a n c, .slice a2 n2 c2] 24))) := (Below.refl _ w).alloc (Nat.le_refl _) _
    clear h h2 ok ok2 hP e1 e2 hl hl2
    by_cases hn : 1048576 < n
    · have i1 : (n : Int) > 1048576 := by omega
      go_enter Tryd.func6, Tryd.ntmps6
      go_wp2_with fail
      go_ret2
      exact ⟨rfl, HB.out⟩
    · have i1 : ¬ (n : Int) > 1048576 := by omega
      have i2 : (n2 : Int) > 1048576 := by omega
      go_enter Tryd.func6, Tryd.ntmps6
      go_wp2_with fail
      go_ret2
      exact ⟨rfl, HB.out⟩
  · have i1 : ¬ (n : Int) > 1048576 := by omega
    have i2 : ¬ (n2 : Int) > 1048576 := by omega
    have hbel := (Below.refl w.heap.size w).alloc (Nat.le_refl _) (.cells #[.slice a n c, .slice a2 n2 c2] 24)
    have hsz := alloc_size w (.cells #[.slice a n c, .slice a2 n2 c2] 24)
    have hbk : (w.alloc (.cells #[.slice a n c, .slice a2 n2 c2] 24)).heap[w.heap.size]? = some (.cells #[.slice a n c, .slice a2 n2 c2] 24 (0, 0)) := blk_new _ _ _ rfl
    have hk1 := keeps1 w (.cells #[.slice a n c, .slice a2 n2 c2] 24)
    have hS1 := h.more hk1
    have hS2 := h2.more hk1
    have hP1 := hP.below hbel hP.pos
    obtain ⟨p, hp⟩ : ∃ p, p = w.heap.size := ⟨_, rfl⟩
    rw [← hp] at hbel hsz hbk
    have HI : Hid (EncI w ((w.alloc (.cells #[.slice a n c, .slice a2 n2 c2] 24)).alloc (.cells #[.pointer none, .slice none 0 0] 41)) p a a2 n c n2 c2 l l2 []) := by
      generalize w.alloc (.cells #[.slice a n c, .slice a2 n2 c2] 24) = wa at *
      have hb2 : Below (p + 1) wa (wa.alloc (.cells #[.pointer none, .slice none 0 0] 41)) := (Below.refl _ wa).alloc (by omega) _
      have hk2 := keeps1 wa (.cells #[.pointer none, .slice none 0 0] 41)
      have hbd : IsBd (wa.alloc (.cells #[.pointer none, .slice none 0 0] 41)) (p + 1) (p + 1) [] := by
        have := Lib.IsBuilderF.of (Lib.fresh_isBuilder 41 5 wa)
        rw [hsz] at this
        exact this
      have hP2 := hP1.below hb2 (by omega)
      exact ⟨⟨hS1.more hk2, hc, fun h0 x hx => by have := h.lt x hx h0; omega, ok, hbd, Below.refl _ _, hP2⟩, ⟨hS2.more hk2, hc2, fun h0 x hx => by have := h2.lt x hx h0; omega, ok2, hbd, Below.refl _ _, hP2⟩, blk_kept hbk hk2 (fun f => f), hbel.trans (hb2.mono (by omega))⟩
    have hok := And.intro ok ok2
    have HO : Hid (((∀ x ∈ l, okX x) ∧ (∀ x ∈ l2, okX x)) ∧ n = l.length ∧ n2 = l2.length ∧ n ≤ 1048576 ∧ n2 ≤ 1048576) := ⟨hok, hl, hl2, by omega, by omega⟩
    clear h h2 hP hk1 ok ok2 hc hc2 hl hl2 hbel hsz hbk hS1 hS2 hP1 hok
    subst hp
    go_enter Tryd.func6, Tryd.ntmps6
    go_wp2_with fail
    have hsz2 : ((w.alloc (.cells #[.slice a n c, .slice a2 n2 c2] 24)).alloc (.cells #[.pointer none, .slice none 0 0] 41)).heap.size = w.heap.size + 2 := by rw [alloc_size, alloc_size]
    generalize ((w.alloc (.cells #[.slice a n c, .slice a2 n2 c2] 24)).alloc (.cells #[.pointer none, .slice none 0 0] 41)) = w0 at HI hsz2 ⊢
    refine (bwrite (w.heap.size + 1) (w.heap.size + 1) [] picksW _ HI.out.w1.bd (by decide) (by omega)).mono ?_
    rintro e w1 ⟨rfl, hd1, hb1⟩
    have z1 := hb1.size
    have H1 : Hid (EncI w w1 w.heap.size a a2 n c n2 c2 l l2 picksW) := HI.out.on hb1 hd1
    have c1 : w1.cell? ⟨w.heap.size, 0, none⟩ = some (.slice a n c) := (blk_cell H1.out.box 0).trans rfl
    clear hd1 hb1
    go_wp2_with fail
    refine (writeRows_any (w.heap.size + 1) (w.heap.size + 1) a n c l picksW _ H1.out.w1 HO.out.2.2.2.1 (by omega)).mono ?_
    rintro e w2 ⟨rfl, hd2, hb2⟩
    have z2 := hb2.size
    have H2 : Hid (EncI w w2 w.heap.size a a2 n c n2 c2 l l2 (tellV picksW l)) := H1.out.on hb2 hd2
    have hlen1 := tellV_len picksW l HO.out.1.1 (by have := HO.out.2; omega) (by decide)
    clear hd2 hb2
    go_wp2_with fail
    refine (bwrite (w.heap.size + 1) (w.heap.size + 1) (tellV picksW l) drawsW _ H2.out.w1.bd (by rw [show drawsW.length = 6 from rfl]; omega) (by omega)).mono ?_
    rintro e w3 ⟨rfl, hd3, hb3⟩
    have z3 := hb3.size
    have H3 : Hid (EncI w w3 w.heap.size a a2 n c n2 c2 l l2 (tellV picksW l ++ drawsW)) := H2.out.on hb3 hd3
    have c3 : w3.cell? ⟨w.heap.size, 1, none⟩ = some (.slice a2 n2 c2) := (blk_cell H3.out.box 1).trans rfl
    clear hd3 hb3
    go_wp2_with fail
    refine (writeRows_any (w.heap.size + 1) (w.heap.size + 1) a2 n2 c2 l2 _ _ H3.out.w2 HO.out.2.2.2.2 (by omega)).mono ?_
    rintro e w4 ⟨rfl, hd4, hb4⟩
    have z4 := hb4.size
    have H4 : Hid (EncI w w4 w.heap.size a a2 n c n2 c2 l l2 (encB l l2)) := H3.out.on hb4 hd4
    clear hd4 hb4
    go_wp2_with fail
    refine (blen (w.heap.size + 1) (w.heap.size + 1) (encB l l2) _ H4.out.w1.bd).mono ?_
    rintro e wz ⟨rfl, hw⟩
    have hw2 := hw.symm
    subst hw2
    clear hw
    by_cases hlong : 65536 < (encB l l2).length
    · have e1 : Hid (encT l l2 = [] ∧ encE l l2 = 2) := by
        unfold encT encE
        rw [if_pos (.inr (.inr hlong)), if_pos (.inr (.inr hlong))]
        exact ⟨rfl, rfl⟩
      have i3 : ((encB l l2).length : Int) > 65536 := by omega
      go_wp2_with fail
      go_ret2
      rw [e1.out.1, e1.out.2]
      exact ⟨rfl, H4.out.bel⟩
    · have hno : ¬ (1048576 < l.length ∨ 1048576 < l2.length ∨ 65536 < (encB l l2).length) := by have := HO.out.2; omega
      have e1 : Hid (encT l l2 = encB l l2 ∧ encE l l2 = 0) := by
        unfold encT encE
        rw [if_neg hno, if_neg hno]
        exact ⟨rfl, rfl⟩
      have i3 : ¬ ((encB l l2).length : Int) > 65536 := by omega
      clear hno
      go_wp2_with fail
      refine (Tryd.Builder_String_any_k (w.heap.size + 1) (w.heap.size + 1) (encB l l2) _ H4.out.w1.bd (by omega)).mono ?_
      rintro e w5 ⟨rfl, -, hb5, -⟩
      have H5 : Hid (Below w.heap.size w w5) := H4.out.bel.trans (hb5.mono (by omega))
      clear hb5
      go_wp2_with fail
      go_ret2
      rw [e1.out.1, e1.out.2]
      exact ⟨rfl, H5.out⟩
end
end Go.Proofs.YtbeblgeiafkniaaDoor
