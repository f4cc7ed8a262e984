import Derived.Test.YtcjmceedkfjbeaaDoorPgMis
import Derived.Test.YtcjmceedkfjbeaaDoorPgSafe
/-! The document's look at single instructions and functions. -/
namespace Go.Proofs.YtcjmceedkfjbeaaDoor
set_option linter.unusedVariables false
set_option maxRecDepth 20000
open Go.RowKit Go.HeapKit

theorem rbelow_any (x n : Int) (w : World) : Calls Tryd.prog 54 #[.int .i64 x, .int .i64 n] w fun e w' => e = .returned (.bool (belowV x n)) ∧ w' = w := by
  go_enter Tryd.func54, Tryd.ntmps54
  go_wp2
  · go_ret
    refine ⟨?_, rfl⟩
    simp [belowV, *]
  · go_ret
    refine ⟨?_, rfl⟩
    simp [belowV]
    omega
theorem rshaped_any (f : Fn) (ca : Option Addr) (cc : Nat) (w : World) :
    Calls Tryd.prog 43 #[fnV f ca cc] w fun e w' => e = .returned (.bool (shapeV f)) ∧ Keeps None w w' := by
  unfold fnV
  by_cases h : shapeV f = true
  · rw [h]
    simp only [shapeV, Bool.and_eq_true, decide_eq_true_eq] at h
    have i1 : ¬ f.params < 0 := by omega
    have i2 : ¬ 8 < f.params := by omega
    have i3 : ¬ f.regs < 1 := by omega
    have i4 : ¬ f.regs < f.params := by omega
    have i5 : ¬ 16 < f.regs := by omega
    have i6 : 0 ≤ f.slots := by omega
    have i7 : f.slots ≤ 8 := by omega
    have i8 : 1 ≤ (f.code.length : Int) := by omega
    have i9 : (f.code.length : Int) ≤ 512 := by omega
    generalize (f.code.length) = n at *
    clear h
    go_enter Tryd.func43, Tryd.ntmps43
    go_wp2
    all_goals (go_ret; refine ⟨?_, (Keeps.refl _ _).andAlloc _⟩; first | rfl | (simp; omega))
  · have h' : shapeV f = false := by simpa using h
    rw [h']
    simp only [shapeV, Bool.and_eq_true, decide_eq_true_eq] at h
    clear h'
    generalize (f.code.length) = n at *
    go_enter Tryd.func43, Tryd.ntmps43
    go_wp2
    all_goals (go_ret; refine ⟨?_, (Keeps.refl _ _).andAlloc _⟩; first | rfl | (simp; omega) | (exfalso; omega))
theorem rafter_any (i : Ins) (slot st : Int) (w : World) : Calls Tryd.prog 61 #[insV i, .int .i64 slot, .int .i64 st] w fun e w' => e = .returned (.int .i64 (afterV i slot st)) ∧ Keeps None w w' := by
  obtain ⟨ik, ia, ib, ic, iK⟩ := i
  unfold insV
  go_enter Tryd.func61, Tryd.ntmps61
  go_wp2
  all_goals first
    | (go_ret; refine ⟨?_, (Keeps.refl _ _).andAlloc _⟩; simp_all [afterV]; done)
/-- A row of its own. -/
structure NewRow (w : World) (v : Value) (w' : World) (l : List Int) : Prop where
  own : w'.ownsRow 0 3 1 v l.length (l.map (Value.int .i64))
  keep : Keeps None w w'
  low : ∀ g, v.ownBlock = some g → w.heap.size ≤ g
theorem row_built (w : World) (l : List Int) (n : Nat) (hn : n = l.length) (h0 : l.length ≤ 512) : (w.alloc (.cells (l.map (Value.int .i64)).toArray 3)).ownsRow 0 3 1 (.slice (some ⟨w.heap.size, 0, none⟩) n n) l.length (l.map (Value.int .i64)) := by
  subst hn
  refine ⟨by simp, .inr ⟨w.heap.size, l.length, _, rfl, Nat.zero_le _, heap_alloc_new _ _, Nat.le_refl _, by unfold maxLen; omega, by simp, ?_⟩⟩
  rw [Nat.mul_one]
  exact List.take_of_length_le (by simp)
set_option maxHeartbeats 1000000 in
theorem rnexts_any (f : Fn) (ca : Option Addr) (cc : Nat) (a : Nat) (i : Ins) (w : World) (hC : SeenI w ca f.code.length f.code) (hi : f.code[a]? = some i) (hk : 0 ≤ i.kind ∧ i.kind < 10) (hn : f.code.length ≤ 512) :
    Calls Tryd.prog 62 #[fnV f ca cc, .int .i64 a] w fun e w' => ∃ v, e = .returned v ∧ NewRow w v w' (exitsV a i) := by
  have ha := (List.getElem?_eq_some_iff.1 hi).1
  obtain ⟨b, off, i', rfl, hi', hat⟩ := hC.at ha
  rw [hi] at hi'
  obtain rfl := Option.some.inj hi'
  clear hi'
  unfold fnV
  generalize hN : f.code.length = N at *
  have hk2 := keeps2 w (.cells #[.int .i64 f.params, .int .i64 f.regs, .int .i64 f.slots, .slice (some ⟨b, off, none⟩) N cc] 40) (.cells #[.int .i64 i.kind, .int .i64 i.a, .int .i64 i.b, .int .i64 i.c, .int .i64 i.k] 42)
  obtain ⟨p1, p2⟩ := two_boxes w #[.int .i64 f.params, .int .i64 f.regs, .int .i64 f.slots, .slice (some ⟨b, off, none⟩) N cc] #[.int .i64 i.kind, .int .i64 i.a, .int .i64 i.b, .int .i64 i.c, .int .i64 i.k] 40 42
  obtain ⟨y0, y1, y2, y3, y4⟩ := hat.kept (Keeps.alloc None w (.cells #[.int .i64 f.params, .int .i64 f.regs, .int .i64 f.slots, .slice (some ⟨b, off, none⟩) N cc] 40)) (fun f => f)
  have s2 : ((w.alloc (.cells #[.int .i64 f.params, .int .i64 f.regs, .int .i64 f.slots, .slice (some ⟨b, off, none⟩) N cc] 40)).alloc (.cells #[.int .i64 i.kind, .int .i64 i.a, .int .i64 i.b, .int .i64 i.c, .int .i64 i.k] 42)).heap.size = w.heap.size + 2 := by simp
  obtain ⟨W, hW⟩ : ∃ W, W = (w.alloc (.cells #[.int .i64 f.params, .int .i64 f.regs, .int .i64 f.slots, .slice (some ⟨b, off, none⟩) N cc] 40)).alloc (.cells #[.int .i64 i.kind, .int .i64 i.a, .int .i64 i.b, .int .i64 i.c, .int .i64 i.k] 42) := ⟨_, rfl⟩
  rw [← hW] at hk2 p2 s2
  have c0 := (cell_of_heap p2 0).trans rfl
  have c1 := (cell_of_heap p2 1).trans rfl
  have c2 := (cell_of_heap p2 2).trans rfl
  have i1 : (a : Int) < (N : Int) := by omega
  have i2 : (a : Int) ≤ 512 := by omega
  have FIN : Hid (∀ l : List Int, l.length ≤ 512 → NewRow w (.slice (some ⟨W.heap.size, 0, none⟩) l.length l.length) (W.alloc (.cells (l.map (Value.int .i64)).toArray 3)) l) := fun l hl => ⟨row_built W l _ rfl hl, hk2.trans (Keeps.alloc None W _) (fun _ f _ => f), fun g e => by simp [Value.ownBlock] at e; omega⟩
  have FN0 : Hid (NewRow w (.slice none 0 0) W []) := ⟨⟨by simp, .inl ⟨rfl, rfl⟩⟩, hk2, fun g e => by simp [Value.ownBlock] at e⟩
  have HX : Hid (exitsV a i = (if fN i.kind.toNat then [(a : Int) + 1] else []) ++ (if fA i.kind.toNat = 3 then [i.a] else []) ++ (if fB i.kind.toNat = 3 then [i.b] else [])) := rfl
  have HW : Hid _ := hW
  clear hk2 p1 p2 s2 hi hat hC hN
  go_enter Tryd.func62, Tryd.ntmps62
  go_upto_region 2 with fail
  rw [← hW]
  clear hW y0 y1 y2 y3 y4
  obtain ⟨ik, ia, ib, ic, iK⟩ := i
  simp only at *
  by_cases k3 : ik = 3
  · subst k3
    go_wp2_with fail
    go_ret
    refine ⟨_, rfl, ?_⟩
    rw [HX.out]
    exact FIN.out [ia] (by simp)
  · by_cases k9 : ik = 9
    · subst k9
      go_wp2_with fail
      go_ret
      refine ⟨_, rfl, ?_⟩
      rw [HX.out]
      exact FN0.out
    · by_cases k4 : ik = 4
      · subst k4
        go_wp2_with fail
        go_ret
        refine ⟨_, rfl, ?_⟩
        rw [HX.out]
        exact FIN.out [(a : Int) + 1, ib] (by simp)
      · have q3 : (ik == 3) = false := by simpa using k3
        have q4 : (ik == 4) = false := by simpa using k4
        have q9 : (ik == 9) = false := by simpa using k9
        have hx : exitsV a ⟨ik, ia, ib, ic, iK⟩ = [(a : Int) + 1] := by
          rw [HX.out]
          obtain ⟨k, rfl⟩ := Int.eq_ofNat_of_zero_le hk.1
          have h10 : k < 10 := by omega
          have : ∀ k, k < 10 → (k = 3 ∨ k = 4 ∨ k = 9 ∨ (fN k = true ∧ fA k ≠ 3 ∧ fB k ≠ 3)) := by decide
          obtain ⟨u1, u2, u3⟩ := (((this k h10).resolve_left (by omega)).resolve_left (by omega)).resolve_left (by omega)
          rw [show ((k : Int)).toNat = k from rfl, u1, if_neg u2, if_neg u3]
          rfl
        have HX2 : Hid _ := hx
        clear hx k3 k4 k9
        go_wp2_with fail
        go_ret
        refine ⟨_, rfl, ?_⟩
        rw [HX2.out]
        exact FIN.out [(a : Int) + 1] (by simp)
/-- The kind is one, and the instruction fits its function, but for who is called. -/
theorem fits_fs (fs fs' : List Fn) (f : Fn) (i : Ins) : fitsV true fs f i = fitsV true fs' f i := by
  unfold fitsV allowsV
  simp
set_option maxHeartbeats 1000000 in
theorem ralone_any (f : Fn) (ca : Option Addr) (cc : Nat) (i : Ins) (w : World) :
    Calls Tryd.prog 44 #[fnV f ca cc, insV i] w fun e w' => e = .returned (.bool (fitsV true [] f i)) ∧ Keeps None w w' := by
  obtain ⟨ik, ia, ib, ic, iK⟩ := i
  unfold fnV insV
  obtain ⟨V, hV⟩ : ∃ V, V = fitsV true [] f ⟨ik, ia, ib, ic, iK⟩ := ⟨_, rfl⟩
  rw [← hV]
  have HV : Hid _ := hV
  clear hV
  by_cases hk : 0 ≤ ik ∧ ik < 10
  · rcases kinds (i := ⟨ik, ia, ib, ic, iK⟩) hk.1 hk.2 with h | h | h | h | h | h | h | h | h | h
    all_goals
      simp only at h
      subst h
      clear hk
      go_enter Tryd.func44, Tryd.ntmps44
      go_wp2_with (go_at_call 54; refine (rbelow_any _ _ _).mono ?_; rintro e w' ⟨rfl, rfl⟩)
    all_goals
      go_ret
      refine ⟨?_, keeps2 _ _ _⟩
      rw [HV.out]
      simp_all [fitsV, allowsV, fA, fB, fC, fK, belowV] <;> first | done | omega | (by_cases hz : iK < 16 <;> by_cases hy : iK < 0 <;> simp_all <;> omega)
  · have q0 : (ik == 0) = false := by simp; omega
    have q1 : (ik == 1) = false := by simp; omega
    have q2 : (ik == 2) = false := by simp; omega
    have q3 : (ik == 3) = false := by simp; omega
    have q4 : (ik == 4) = false := by simp; omega
    have q5 : (ik == 5) = false := by simp; omega
    have q6 : (ik == 6) = false := by simp; omega
    have q7 : (ik == 7) = false := by simp; omega
    have q8 : (ik == 8) = false := by simp; omega
    have q9 : (ik == 9) = false := by simp; omega
    have hz : belowV ik 10 = false := by
      cases hb : belowV ik 10
      · rfl
      · exact absurd ((belowV_iff _ _).1 hb) hk
    have HZ : Hid _ := hz
    clear hk hz
    go_enter Tryd.func44, Tryd.ntmps44
    go_wp2_with (go_at_call 54; refine (rbelow_any _ _ _).mono ?_; rintro e w' ⟨rfl, rfl⟩)
    go_ret
    refine ⟨?_, keeps2 _ _ _⟩
    rw [HV.out]
    simp [fitsV, HZ.out]
end Go.Proofs.YtcjmceedkfjbeaaDoor
