import Derived.Test.YtheginjjncnheaaHoMeet2
/-! The search for an order: 'way'. -/
namespace Go.Proofs.Ytheginjjncnheaa
set_option linter.unusedVariables false
set_option maxRecDepth 20000
set_option linter.unusedSimpArgs false
open Go.RowKit Go.HeapKit

def c0 : C4 := ⟨0, 0, 0, 0⟩
def C4.sum (x : C4) : Nat := x.a + x.b + x.c + x.d
theorem C4.sum_inc (x : C4) {i : Nat} (hi : i < 4) : (x.inc i).sum = x.sum + 1 := by
  rcases i with _ | _ | _ | _ | i
  · simp [C4.inc, C4.sum]; omega
  · simp [C4.inc, C4.sum]; omega
  · simp [C4.inc, C4.sum]; omega
  · simp [C4.inc, C4.sum]; omega
  · omega
theorem C4.sum_zero {x : C4} (h : x.sum = 0) : x = c0 := by
  obtain ⟨a, b, c, d⟩ := x
  simp [C4.sum] at h
  obtain ⟨⟨⟨rfl, rfl⟩, rfl⟩, rfl⟩ := h
  rfl
theorem C4.arr_dec (x : C4) {i : Nat} (hi : i < 4) : (x.inc i).arr.setIfInBounds i (.int .i64 (((x.inc i).at i : Int) - 1)) = x.arr := by
  rcases i with _ | _ | _ | _ | i
  · simp [C4.inc, C4.arr, C4.at]
  · simp [C4.inc, C4.arr, C4.at]
  · simp [C4.inc, C4.arr, C4.at]
  · simp [C4.inc, C4.arr, C4.at]
  · omega
def psum (x : C4) : Nat → Nat
  | 0 => 0
  | i + 1 => psum x i + x.at i
theorem psum_four (x : C4) : psum x 4 = x.sum := by simp [psum, C4.at, C4.sum]
theorem idx4 (x : C4) (i : Nat) (hi : i < 4) (w : World) : (Instr.index 62 (.agg #[.int .i64 x.a, .int .i64 x.b, .int .i64 x.c, .int .i64 x.d]) (.int .i64 (i : Int))).run Try.prog w = .ok (.int .i64 (x.at i)) w := by
  rcases i with _ | _ | _ | _ | i
  · kernel_rfl
  · kernel_rfl
  · kernel_rfl
  · kernel_rfl
  · omega
/-- Each state that was met but the first has been met from another one that was met. -/
def Chain (l : List Cl) (M : List (C4 × Int)) : Prop := ∀ k j, lookM M k = some j → (k = c0 ∧ j = -1) ∨ ∃ (k' : C4) (i q : Nat), i < 4 ∧ k = k'.inc i ∧ j = (q : Int) ∧ q < l.length ∧ (clAt l q).who = i ∧ (lookM M k').isSome = true
inductive Way (l : List Cl) (M : List (C4 × Int)) : C4 → List Int → Prop
  | nil : Way l M c0 []
  | more {k' : C4} {i q : Nat} {zs : List Int} : Way l M k' zs → i < 4 → (clAt l (q : Int)).who = (i : Int) → lookM M (k'.inc i) = some (q : Int) → Way l M (k'.inc i) (zs ++ [(q : Int)])
theorem make_inth (n : Nat) (w : World) (hn : n ≤ 1000000) : (Instr.makeSlice 32 (.int .i64 n) (.int .i64 n)).run Try.prog w = .ok (.slice (some ⟨w.heap.size, 0, none⟩) n n) (w.alloc (.cells (List.replicate n (Value.int .i64 0)).toArray 3)) := by
  have hinfo : (Try.prog.info? 3).map (fun i => (i.zero, i.size, i.bytes)) = some (some (.int .i64 0), 1, 8) := by kernel_rfl
  obtain ⟨i0, hi, hz0, hz1, hz2⟩ := info_parts hinfo
  obtain ⟨M, hM, _, hr⟩ := run_make_block (P := Try.prog) (w := w) 32 3 i0 _ 1 8 Try.underlying32 hi hz0 hz1 hz2 n (by omega) (by omega)
  rw [made_one4 _ rfl, Nat.mul_one] at hM
  rw [hr, hM]
/-- What stands at a round of the way back. -/
structure WayAt (W w : World) (S : Nat) (a : Option Addr) (n c : Nat) (vs : Nat → Value) (mb : Nat) (tv : Value) (l : List Cl) (most : Nat) (M : List (C4 × Int)) (T : List St) (x : C4) (X G L : Nat) (wr : World) (r : Nat) (y : C4) (su : List Int) : Prop where
  keep : Keeps None w wr
  xb : wr.heap[X]? = some (.cells y.arr 62 (0, 0))
  gb : wr.heap[G]? = some (.cells ((List.replicate r (0 : Int) ++ su).map (Value.int .i64)).toArray 3 (0, 0))
  len : r + su.length = L
  sum : y.sum = r
  known : (lookM M y).isSome = true
  way : ∀ zs, Way l M y zs → Way l M x (zs ++ su)
set_option maxHeartbeats 2000000 in
set_option maxRecDepth 1000000 in
theorem way_ok (W w : World) (S : Nat) (a : Option Addr) (n c : Nat) (vs : Nat → Value) (mb : Nat) (tv : Value) (l : List Cl) (most : Nat) (M : List (C4 × Int)) (T : List St) (x : C4) (h : Sr W w S a n c vs mb tv l most M T) (hS : Seen W a n l) (hC : Chain l M) (hx : (lookM M x).isSome = true) (hs : x.sum ≤ 1000) (h40 : l.length ≤ 40) :
    Calls Try.prog 22 #[.pointer (some ⟨S, 0, none⟩), .agg x.arr] w fun e w' => ∃ g zs, e = .returned (.slice (some ⟨g, 0, none⟩) zs.length zs.length) ∧ w'.heap[g]? = some (.cells (zs.map (Value.int .i64)).toArray 3 (0, 0)) ∧ Way l M x zs ∧ w.heap.size ≤ g ∧ Keeps None w w' := by
  have hal := Keeps.alloc None w (.cells x.arr 62)
  have bX := heap_alloc_new w (.cells x.arr 62)
  obtain ⟨W1, hW1⟩ : ∃ W1, W1 = w.alloc (.cells x.arr 62) := ⟨_, rfl⟩
  obtain ⟨X, hX⟩ : ∃ X, X = w.heap.size := ⟨_, rfl⟩
  have sW1 : W1.heap.size = X + 1 := by rw [hW1, hX]; simp
  rw [← hW1] at hal bX
  rw [← hX] at bX
  obtain ⟨x0, x1, x2, x3⟩ := arr_cells bX
  have hmk := make_inth x.sum W1 (by omega)
  rw [sW1] at hmk
  have k2 := Keeps.alloc None W1 (.cells (List.replicate x.sum (Value.int .i64 0)).toArray 3)
  have b2 := heap_alloc_new W1 (.cells (List.replicate x.sum (Value.int .i64 0)).toArray 3)
  obtain ⟨W2, hW2⟩ : ∃ W2, W2 = W1.alloc (.cells (List.replicate x.sum (Value.int .i64 0)).toArray 3) := ⟨_, rfl⟩
  rw [← hW2] at hmk k2 b2
  rw [sW1] at b2
  have hst : WayAt W w S a n c vs mb tv l most M T x X (X + 1) x.sum W2 x.sum x [] := ⟨hal.trans k2 (fun _ f _ => f), blk_kept bX k2 (fun f => f), by rw [b2]; simp, by simp, rfl, hx, fun zs h => by simpa using h⟩
  have HST : Hid _ := hst
  have HC : Hid (Sr W w S a n c vs mb tv l most M T ∧ Seen W a n l ∧ Chain l M ∧ n = l.length ∧ X = w.heap.size ∧ l.length ≤ 40) := ⟨h, hS, hC, hS.len, hX, h40⟩
  have hsum : x.sum = x.a + x.b + x.c + x.d := rfl
  have HSU : Hid _ := hsum
  have hsb : x.a ≤ 1000 ∧ x.b ≤ 1000 ∧ x.c ≤ 1000 ∧ x.d ≤ 1000 := by omega
  clear h hS hC hx h40 hal bX sW1 k2 b2 hW2 hst hsum
  go_enter Try.func22, Try.ntmps22
  go_upto_region 1 with fail
  rw [← hW1, ← hX]
  clear hW1 hX
  go_wp2_with fail
  go_loopw [5, 11] (fun s5 s11 wr => ∃ i : Nat, i ≤ 4 ∧ s11 = .int .i64 i ∧ s5 = .int .i64 (psum x i) ∧ wr = W1) (fun _ i _ => 4 - (intOf i).toNat)
  case atStart => exact ⟨0, by omega, rfl, rfl, rfl⟩
  case round =>
    obtain ⟨i, hi, rfl, rfl, hwr⟩ := hrel
    have hwr' := hwr.symm
    subst hwr'
    by_cases hi4 : i < 4
    · have i1 : (i : Int) < 4 := by omega
      have hix := idx4 x i hi4 W1
      have hat : x.at i ≤ 1000 ∧ psum x i ≤ 4000 := by
        rcases i with _ | _ | _ | _ | i
        · simp [psum, C4.at]; omega
        · simp [psum, C4.at]; omega
        · simp [psum, C4.at]; omega
        · simp [psum, C4.at]; omega
        · omega
      have HP : Hid (psum x (i + 1) = psum x i + x.at i) := rfl
      generalize x.at i = xa at *
      generalize psum x i = ps at *
      clear hmk x0 x1 x2 x3
      go_wp2_with fail
      exact ⟨⟨i + 1, by omega, by go_num, by rw [HP.out]; go_num, (by first | rfl | trivial)⟩, by simp [intOf]; omega⟩
    · have i1 : ¬ ((i : Int) < 4) := by omega
      have hi' : i = 4 := by omega
      subst hi'
      rw [psum_four]
      have HS1 : Hid (x.sum ≤ 1000) := hs
      generalize x.sum = L at *
      clear x0 x1 x2 x3 hsb
      go_upto_region 8 with (at_make; refine wpList_make_run rfl (.tmp 18) (.tmp 18) 32 rfl rfl rfl hmk ?_)
      clear hmk
      go_wp2_with fail
      go_loopw [9] (fun s9 wr => ∃ (r : Nat) (y : C4) (su : List Int) (z : Int), s9 = .int .i64 z ∧ z = (r : Int) - 1 ∧ r ≤ L ∧ WayAt W w S a n c vs mb tv l most M T x X (X + 1) L wr r y su) (fun i _ => (intOf i + 1).toNat)
      case atStart => exact ⟨L, x, [], (L : Int) - 1, rfl, rfl, Nat.le_refl _, HST.out⟩
      case round =>
        clear HST
        obtain ⟨r, y, su, z, rfl, hz, hr, hA⟩ := hrel
        have hL := HS1.out
        by_cases hr0 : r = 0
        · subst hr0
          have i4 : ¬ ((0 : Int) ≤ z) := by omega
          have hy := C4.sum_zero hA.sum
          have hw := hA.way [] (by rw [hy]; exact .nil)
          have HF : Hid (∃ g zs, (Value.slice (some ⟨X + 1, 0, none⟩) L L) = .slice (some ⟨g, 0, none⟩) zs.length zs.length ∧ wr.heap[g]? = some (.cells (zs.map (Value.int .i64)).toArray 3 (0, 0)) ∧ Way l M x zs ∧ w.heap.size ≤ g ∧ Keeps None w wr) := ⟨X + 1, su, by have := hA.len; rw [show su.length = L by omega], by have := hA.gb; simpa using this, by simpa using hw, by have := HC.out.2.2.2.2.1; omega, hA.keep⟩
          clear hA hy hw hz
          go_wp2_with fail
          go_ret
          obtain ⟨g, zs, e, h1⟩ := HF.out
          exact ⟨g, zs, by rw [← e]; rfl, h1⟩
        · obtain ⟨r', rfl⟩ : ∃ r', r = r' + 1 := ⟨r - 1, by omega⟩
          have hz' : z = (r' : Int) := by omega
          subst hz'
          obtain ⟨j, hj⟩ : ∃ j, lookM M y = some j := Option.isSome_iff_exists.1 hA.known
          have hsr := HC.out.1.more hA.keep
          rcases HC.out.2.2.1 y j hj with ⟨e, _⟩ | ⟨k', iw, q, hiw, e, hjq, hq, hqw, hk'⟩
          · have := hA.sum
            rw [e] at this
            simp [c0, C4.sum] at this
          · subst e hjq
            obtain ⟨cl, hc⟩ : ∃ c, l[q]? = some c := ⟨l[q], by simp⟩
            have hcw : cl.who = (iw : Int) := by have := hqw; rw [clAt_of hc] at this; exact this
            have hsk := k'.sum_inc hiw
            have hsum := hA.sum
            obtain ⟨x0, x1, x2, x3⟩ := arr_cells hA.xb
            have s5 : wr.cell? ⟨S, 5, none⟩ = some (.map (some mb)) := (blk_cell hsr.sr.blk 5).trans rfl
            have hlk0 := (hsr.met.kept (Keeps.drew None wr) (fun f => f)).look (k'.inc iw)
            rw [hj] at hlk0
            have hlk : (Instr.lookup 56 (.map (some mb)) (.agg #[.int .i64 (k'.inc iw).a, .int .i64 (k'.inc iw).b, .int .i64 (k'.inc iw).c, .int .i64 (k'.inc iw).d]) false).run Try.prog wr.drew = .ok (.int .i64 (q : Int)) wr.drew := hlk0
            have hgl : (List.replicate (r' + 1) (0 : Int) ++ su)[r']? = some 0 := by rw [List.getElem?_append_left (by simp)]; simp
            have g0 : wr.cell? ⟨X + 1, r', none⟩ = some (.int .i64 0) := by rw [blk_cell hA.gb, List.getElem?_toArray, List.getElem?_map, hgl]; rfl
            have gf := blk_free hA.gb r'
            have i3 : (r' : Int) < (L : Int) := by omega
            have kG : Keeps (· = X + 1) wr ((wr.setCell ⟨X + 1, r', none⟩ (.int .i64 (q : Int))).drew) := (Keeps.setCell (S := (· = X + 1)) wr (a := ⟨X + 1, r', none⟩) rfl (.int .i64 (q : Int))).andDrew
            have hgb : ((wr.setCell ⟨X + 1, r', none⟩ (.int .i64 (q : Int))).drew).heap[X + 1]? = some (.cells ((List.replicate r' (0 : Int) ++ ((q : Int) :: su)).map (Value.int .i64)).toArray 3 (0, 0)) := by
              have e : (((List.replicate (r' + 1) (0 : Int) ++ su).map (Value.int .i64)).toArray).setIfInBounds r' (.int .i64 (q : Int)) = ((List.replicate r' (0 : Int) ++ ((q : Int) :: su)).map (Value.int .i64)).toArray := by
                apply Array.ext'
                rw [Array.toList_setIfInBounds]
                simp only [List.toList_toArray]
                rw [← List.map_set, List.set_append_left _ _ (by simp)]
                congr 1
                rw [List.replicate_succ', List.set_append_right _ _ (by simp)]
                simp
              have := blk_set (i := r') hA.gb (.int .i64 (q : Int))
              rw [e] at this
              exact this
            obtain ⟨W3, hW3⟩ : ∃ W3, W3 = (wr.setCell ⟨X + 1, r', none⟩ (.int .i64 (q : Int))).drew := ⟨_, rfl⟩
            rw [← hW3] at kG hgb
            have bX3 := blk_kept hA.xb kG (by omega)
            have kw3 : Keeps None w W3 := hA.keep.trans kG (fun i e hi => by have := HC.out.2.2.2.2.1; omega)
            have H3 : Hid (Keeps None w W3 ∧ W3.heap[X]? = some (.cells (k'.inc iw).arr 62 (0, 0)) ∧ W3.heap[X + 1]? = some (.cells ((List.replicate r' (0 : Int) ++ ((q : Int) :: su)).map (Value.int .i64)).toArray 3 (0, 0)) ∧ l[q]? = some cl ∧ cl.who = (iw : Int) ∧ iw < 4 ∧ k'.sum = r' ∧ (lookM M k').isSome = true ∧ lookM M (k'.inc iw) = some (q : Int) ∧ (∀ zs, Way l M (k'.inc iw) zs → Way l M x (zs ++ su)) ∧ r' + 1 + su.length = L) := ⟨kw3, bX3, hgb, hc, hcw, hiw, by omega, hk', hj, hA.way, hA.len⟩
            clear hA hsr hlk0 hgl kG hgb bX3 kw3 hc hcw hsk hsum hj hk' hq hqw hr hr0 hz
            generalize (k'.inc iw).a = ya at *
            generalize (k'.inc iw).b = yb at *
            generalize (k'.inc iw).c = yc at *
            generalize (k'.inc iw).d = yd at *
            go_upto_region 11 with fail
            go_region
            rw [← hW3]
            clear hW3 hlk g0 gf x0 x1 x2 x3 s5
            have hsr3 := HC.out.1.more H3.out.1
            obtain ⟨bb, oo, eab, hbb, hcl⟩ := (HC.out.2.1.more hsr3.keep).ex (by have := HC.out.2.2.2.1; have := (List.getElem?_eq_some_iff.1 H3.out.2.2.2.1).1; omega)
            subst eab
            have s0 : W3.cell? ⟨S, 0, none⟩ = some (.slice (some ⟨bb, oo, none⟩) n c) := (blk_cell hsr3.sr.blk 0).trans rfl
            have u0 : W3.cell? ⟨bb, oo + q * 7, none⟩ = some (.int .i64 (iw : Int)) := by rw [← H3.out.2.2.2.2.1]; exact (hcl q cl H3.out.2.2.2.1).c0
            have i5 : (q : Int) < (n : Int) := by have := HC.out.2.2.2.1; have := (List.getElem?_eq_some_iff.1 H3.out.2.2.2.1).1; omega
            have i6 : (iw : Int) < 4 := by omega
            have gq : W3.cell? ⟨X + 1, r', none⟩ = some (.int .i64 (q : Int)) := by
              rw [blk_cell H3.out.2.2.1, List.getElem?_toArray, List.getElem?_map, List.getElem?_append_right (by simp)]
              simp
            have xw : W3.cell? ⟨X, iw, none⟩ = some (.int .i64 ((k'.inc iw).at iw : Int)) := (blk_cell H3.out.2.1 iw).trans ((k'.inc iw).arr_at hiw)
            have xf := blk_free H3.out.2.1 iw
            have hyb : (k'.inc iw).at iw ≤ 1001 := by
              have h1 := k'.at_inc hiw hiw
              rw [if_pos rfl] at h1
              have h2 : k'.at iw ≤ k'.sum := by
                rcases iw with _ | _ | _ | _ | iw
                · simp [C4.at, C4.sum]; omega
                · simp [C4.at, C4.sum]; omega
                · simp [C4.at, C4.sum]; omega
                · simp [C4.at, C4.sum]
                · omega
              have := H3.out.2.2.2.2.2.2.1
              omega
            have hb4 : ((W3.setCell ⟨X, iw, none⟩ (.int .i64 (((k'.inc iw).at iw : Int) - 1))).drew).heap[X]? = some (.cells k'.arr 62 (0, 0)) := by
              have := blk_set (i := iw) H3.out.2.1 (.int .i64 (((k'.inc iw).at iw : Int) - 1))
              rw [k'.arr_dec hiw] at this
              exact this
            have k4 : Keeps (· = X) W3 ((W3.setCell ⟨X, iw, none⟩ (.int .i64 (((k'.inc iw).at iw : Int) - 1))).drew) := (Keeps.setCell (S := (· = X)) W3 (a := ⟨X, iw, none⟩) rfl _).andDrew
            have HF : Hid (WayAt W w S (some ⟨bb, oo, none⟩) n c vs mb tv l most M T x X (X + 1) L ((W3.setCell ⟨X, iw, none⟩ (.int .i64 (((k'.inc iw).at iw : Int) - 1))).drew) r' k' ((q : Int) :: su)) :=
              ⟨H3.out.1.trans k4 (fun i e hi => by have := HC.out.2.2.2.2.1; omega), hb4, blk_kept H3.out.2.2.1 k4 (by omega), by have := H3.out.2.2.2.2.2.2.2.2.2.2; simp; omega, H3.out.2.2.2.2.2.2.1, H3.out.2.2.2.2.2.2.2.1, fun zs hzs => by
                have := H3.out.2.2.2.2.2.2.2.2.2.1 _ (.more hzs H3.out.2.2.2.2.2.1 (by rw [clAt_of H3.out.2.2.2.1]; exact H3.out.2.2.2.2.1) H3.out.2.2.2.2.2.2.2.2.1)
                simpa using this⟩
            generalize (k'.inc iw).at iw = yw at *
            clear hsr3 hcl hbb hb4 k4
            go_upto_region 12 with fail
            have z0 : W3.drew.cell? ⟨X, iw, none⟩ = some (.int .i64 (yw : Int)) := xw
            have z1 : W3.drew.frozen? ⟨X, iw, none⟩ = false := xf
            go_region
            all_goals clear z0 z1 xw xf gq s0 u0
            all_goals go_wp2_with fail
            all_goals exact ⟨⟨r', k', (q : Int) :: su, (r' : Int) - 1, rfl, rfl, by have := H3.out.2.2.2.2.2.2.2.2.2.2; omega, HF.out⟩, (by first | (simp [intOf]; done) | (simp [intOf]; omega))⟩
end Go.Proofs.Ytheginjjncnheaa
