import Derived.Test.YtcjmceedkfjbeaaDoorPgDecA
import Derived.Test.YtcjmceedkfjbeaaDoorRpEncode
import Derived.Test.YtcjmceedkfjbeaaDoorPgHead
/-! ProgWords. -/
namespace Go.Proofs.YtcjmceedkfjbeaaDoor
set_option linter.unusedVariables false
set_option maxRecDepth 20000
open Go.RowKit Go.HeapKit

/-- Words in a block of their own. -/
def IsW (w : World) (g : Nat) (l : List Int) : Prop := w.heap[g]? = some (.cells (l.map (Value.int .i64)).toArray 2 (0, 0))
theorem IsW.kept {w w' : World} {S : Nat → Prop} {g : Nat} {l : List Int} (h : IsW w g l) (hk : Keeps S w w') (hS : ¬ S g) : IsW w' g l := blk_kept h hk hS
theorem IsW.at {w : World} {g : Nat} {l : List Int} (h : IsW w g l) {k : Nat} {x : Int} (hx : l[k]? = some x) : w.cell? ⟨g, k, none⟩ = some (.int .i64 x) := by
  rw [blk_cell h]
  simp [hx]
theorem IsW.set {w : World} {g : Nat} {l : List Int} (h : IsW w g l) (k : Nat) (x : Int) : IsW (w.setCell ⟨g, k, none⟩ (.int .i64 x)) g (l.set k x) := by
  unfold IsW at *
  rw [blk_set h, List.map_set]
  simp
theorem IsW.seen {w : World} {g : Nat} {l : List Int} (h : IsW w g l) (n : Nat) (hn : n = l.length) (hm : n ≤ 4611686018427387904) : SeenZ w (some ⟨g, 0, none⟩) n l :=
  ⟨hn, hm, fun _ => ⟨g, 0, rfl, blk_lt h, fun k x hx => by rw [Nat.zero_add]; exact h.at hx⟩⟩
theorem words_made (w : World) (n : Nat) (hn : n * 8 ≤ 140737488355328) : ∃ w', (Instr.makeSlice 22 (.int .i64 n) (.int .i64 n)).run Tryd.prog w = .ok (.slice (some ⟨w.heap.size, 0, none⟩) n n) w' ∧ IsW w' w.heap.size (List.replicate n 0) ∧ Keeps None w w' := by
  obtain ⟨i0, hi, hz0, hz1, hz2⟩ := info_parts Tryd.infoI64
  obtain ⟨M, hM, _, hr⟩ := run_make_block (P := Tryd.prog) (w := w) 22 2 i0 _ 1 8 Tryd.underlying22 hi hz0 hz1 hz2 n (by omega) (by omega)
  refine ⟨_, hr, ?_, Keeps.alloc None w _⟩
  unfold IsW
  rw [heap_alloc_new, hM, Nat.mul_one, made_one _ rfl]
  congr 3
  apply List.ext_getElem <;> simp
theorem fold_ok (l : List Int) (h : Int) (hh : okI h) : okI (l.foldl stepS h) := by
  induction l generalizing h with
  | nil => exact hh
  | cons x l ih => exact ih _ (by unfold okI stepS wrap64; omega)
theorem sumV_ok (l : List Int) : okI (sumV l) := fold_ok l 0 (by simp [okI])
/-- The words so far. -/
def wordsK (zs : List Int) (k : Nat) : List Int := zs.take k ++ List.replicate (zs.length + 1 - k) 0
theorem wordsK_step (zs : List Int) (k : Nat) (x : Int) (hx : zs[k]? = some x) : (wordsK zs k).set k x = wordsK zs (k + 1) := by
  have hk := (List.getElem?_eq_some_iff.1 hx).1
  unfold wordsK
  rw [List.set_append_right _ _ (by simp; omega), show k - (zs.take k).length = 0 by simp; omega, show zs.length + 1 - k = (zs.length + 1 - (k + 1)) + 1 by omega, List.replicate_succ, List.set_cons_zero, List.take_add_one, hx]
  simp
theorem wordsK_end (zs : List Int) (x : Int) : (wordsK zs zs.length).set zs.length x = zs ++ [x] := by
  unfold wordsK
  rw [List.take_of_length_le (Nat.le_refl _), show zs.length + 1 - zs.length = 1 by omega, List.set_append_right _ _ (by omega)]
  simp [List.replicate]
theorem wordsK_len (zs : List Int) (k : Nat) (hk : k ≤ zs.length) : (wordsK zs k).length = zs.length + 1 := by simp [wordsK]; omega
set_option maxHeartbeats 2000000 in
theorem progWords_walk (a : Option Addr) (n c : Nat) (zs : List Int) (w : World) (hT : Tabs w) (hS : SeenW w a n zs) (hr : n * 8 ≤ 140737488351232) :
    Calls Tryd.prog 3 #[.slice a n c] w fun e w' => e = .returned (.bool true) ∧ Keeps None w w' := by
  have hlen := hS.len
  obtain ⟨N1, hN1⟩ : ∃ N1, N1 = n + 1 := ⟨_, rfl⟩
  obtain ⟨w1, hmk, hI1, hk1⟩ := words_made w N1 (by omega)
  obtain ⟨L, hL⟩ : ∃ L, L = w.heap.size := ⟨_, rfl⟩
  rw [← hL] at hmk hI1
  have HC : Hid (Tabs w ∧ SeenW w a n zs ∧ n = zs.length ∧ N1 = n + 1 ∧ L = w.heap.size) := ⟨hT, hS, hlen, hN1, hL⟩
  have H1 : Hid (IsW w1 L (wordsK zs 0) ∧ Keeps None w w1) := ⟨by rw [show wordsK zs 0 = List.replicate N1 0 by simp [wordsK, hN1, hlen]]; exact hI1, hk1⟩
  have hnb : (n : Int) ≤ 4611686018427387904 := by omega
  have e1 : IntKind.i64.wrap ((n : Int) + 1) = (N1 : Int) := by rw [Go.IntWalk.i64_in _ (by omega)]; omega
  have i9 : (n : Int) < (N1 : Int) := by omega
  have i9' : n < N1 := by omega
  clear hT hS hlen hN1 hL hI1 hk1
  go_enter Tryd.func3, Tryd.ntmps3
  go_upto_region 3 with (at_make; refine wpList_make_run rfl (.tmp 15) (.tmp 15) 22 rfl rfl rfl hmk ?_)
  clear hmk
  go_wp2_with fail
  go_loopw [5, 6] (fun s5 s6 wr => ∃ k : Nat, k ≤ n ∧ s6 = .int .i64 k ∧ s5 = .int .i64 (sumV (zs.take k)) ∧ IsW wr L (wordsK zs k) ∧ Keeps None w wr) (fun _ i _ => n - (intOf i).toNat)
  case atStart => exact ⟨0, Nat.zero_le _, rfl, by simp [sumV], H1.out.1, H1.out.2⟩
  case round =>
    obtain ⟨k, hk, rfl, rfl, hI, hkp⟩ := hrel
    by_cases hkn : k < n
    · obtain ⟨b, off, rfl, hbl, hc⟩ := HC.out.2.1.ex (by omega)
      obtain ⟨x, hx⟩ : ∃ x, zs[k]? = some x := ⟨zs[k]'(by have := HC.out.2.2.1; omega), List.getElem?_eq_getElem _⟩
      have y := hkp.cell (hc k x hx) (fun f => f)
      have hwl := wordsK_len zs k (by have := HC.out.2.2.1; omega)
      have u := hI.at (List.getElem?_eq_getElem (by have := HC.out.2.2.1; omega : k < (wordsK zs k).length))
      have fz := blk_free hI k
      generalize (wordsK zs k)[k]'(by have := HC.out.2.2.1; omega) = v at u
      have hI2 := hI.set k x
      rw [wordsK_step zs k x hx] at hI2
      have kS : Keeps (· = L) wr (wr.setCell ⟨L, k, none⟩ (.int .i64 x)) := Keeps.setCell (S := (· = L)) wr (a := ⟨L, k, none⟩) rfl _
      have kw : Keeps None w (wr.setCell ⟨L, k, none⟩ (.int .i64 x)) := hkp.trans kS (fun i e hi => by have := HC.out.2.2.2.2; omega)
      have y2 := kw.cell (hc k x hx) (fun f => f)
      have i1 : (k : Int) < (n : Int) := by omega
      have i2 : (k : Int) < (N1 : Int) := by omega
      have i2' : k < N1 := by omega
      obtain ⟨s, hs⟩ : ∃ s, s = sumV (zs.take k) := ⟨_, rfl⟩
      rw [← hs]
      have HX : Hid (sumV (zs.take (k + 1)) = stepS s x) := by
        have e : zs.take (k + 1) = zs.take k ++ [x] := by
          rw [List.take_add_one, hx]; rfl
        unfold Hid
        rw [e, sumV_snoc, hs]
      have HN : Hid (IsW (wr.setCell ⟨L, k, none⟩ (.int .i64 x)) L (wordsK zs (k + 1)) ∧ Keeps None w (wr.setCell ⟨L, k, none⟩ (.int .i64 x))) := ⟨hI2, kw⟩
      clear hc hx hs hI hkp hI2 kS kw hwl
      go_upto_region 8 with fail
      generalize wr.setCell ⟨L, k, none⟩ (.int .i64 x) = W at *
      clear y u fz
      go_wp2_with fail
      refine ⟨⟨k + 1, by omega, by simp, ?_, HN.out.1, HN.out.2⟩, by simp [intOf]; omega⟩
      rw [HX.out]
      rfl
    · have i1 : ¬ ((k : Int) < (n : Int)) := by omega
      have hkn2 : k = n := by omega
      subst hkn2
      have hkz := HC.out.2.2.1
      rw [List.take_of_length_le (by omega : zs.length ≤ k)]
      have hwl := wordsK_len zs k (by omega)
      have u := hI.at (List.getElem?_eq_getElem (by omega : k < (wordsK zs k).length))
      have fz := blk_free hI k
      generalize (wordsK zs k)[k]'(by omega) = v at u
      obtain ⟨sm, hsm⟩ : ∃ sm, sm = sumV zs := ⟨_, rfl⟩
      rw [← hsm]
      have hI2 := hI.set k sm
      rw [show (wordsK zs k).set k sm = zs ++ [sm] by rw [hkz]; exact wordsK_end zs sm] at hI2
      have kS : Keeps (· = L) wr (wr.setCell ⟨L, k, none⟩ (.int .i64 sm)) := Keeps.setCell (S := (· = L)) wr (a := ⟨L, k, none⟩) rfl _
      have kw : Keeps None w (wr.setCell ⟨L, k, none⟩ (.int .i64 sm)) := hkp.trans kS (fun i e hi => by have := HC.out.2.2.2.2; omega)
      have hok : ∀ y ∈ zs ++ [sm], okI y := fun y hy => by
        rcases List.mem_append.1 hy with hy | hy
        · exact HC.out.2.1.ok y hy
        · rw [List.mem_singleton.1 hy, hsm]; exact sumV_ok zs
      have hSW : SeenW (wr.setCell ⟨L, k, none⟩ (.int .i64 sm)) (some ⟨L, 0, none⟩) (k + 1) (zs ++ [sm]) := ⟨by simp; omega, by omega, hok, fun _ => ⟨L, 0, rfl, blk_lt hI2, fun j y hy => by rw [Nat.zero_add]; exact hI2.at hy⟩⟩
      have hdc := decode_right L 0 k N1 (zs ++ [sm]) sm _ (HC.out.1.more kw) hSW (by have := HC.out.2.2.2.1; omega) (by have := HC.out.2.2.2.1; unfold maxLen; omega) (by rw [hkz]; simp) (by rw [hkz]; simpa using hsm)
      rw [← HC.out.2.2.2.1] at hdc
      have HN : Hid (IsW (wr.setCell ⟨L, k, none⟩ (.int .i64 sm)) L (zs ++ [sm]) ∧ Keeps None w (wr.setCell ⟨L, k, none⟩ (.int .i64 sm)) ∧ (zs ++ [sm]).length = N1) := ⟨hI2, kw, by have := HC.out.2.2.2.1; simp; omega⟩
      clear hI hkp hI2 kS kw hok hSW hsm hwl hkz
      go_upto_region 10 with fail
      generalize wr.setCell ⟨L, k, none⟩ (.int .i64 sm) = W at *
      clear u fz
      go_wp2_with fail
      refine hdc.mono ?_
      rintro _ w3 ⟨hk3, ⟨e', he', rfl⟩ | ⟨gb, m, fs, rfl, hSf, hfok, hck, henc⟩⟩
      · have k4 := Keeps.alloc None w3 (.cells #[.slice none 0 0] 25)
        have b4 := heap_alloc_new w3 (.cells #[.slice none 0 0] 25)
        obtain ⟨P, hP⟩ : ∃ P, P = w3.heap.size := ⟨_, rfl⟩
        rw [← hP] at b4
        have k04 := (HN.out.2.1.trans hk3 (fun _ f _ => f)).trans k4 (fun _ f _ => f)
        have p0 := (cell_of_heap b4 0).trans rfl
        have hhd := head_any _ (HC.out.1.more k04)
        have H4 : Hid _ := k04
        clear hk3 k4 b4 k04 hdc
        go_upto_region 11 with fail
        rw [← hP]
        clear hP
        generalize w3.alloc (.cells #[.slice none 0 0] 25) = w4 at *
        go_wp2_with fail
        refine hhd.mono ?_
        rintro e w5 ⟨rfl, hk5⟩
        have H5 : Hid (Keeps None w w5) := H4.out.trans hk5 (fun _ f _ => f)
        clear hk5 hhd
        go_wp2_with fail
        go_ret
        exact ⟨rfl, H5.out⟩
      · have k4 := Keeps.alloc None w3 (.cells #[.slice (some ⟨gb, 0, none⟩) m m] 25)
        have b4 := heap_alloc_new w3 (.cells #[.slice (some ⟨gb, 0, none⟩) m m] 25)
        obtain ⟨P, hP⟩ : ∃ P, P = w3.heap.size := ⟨_, rfl⟩
        rw [← hP] at b4
        have kW4 := hk3.trans k4 (fun _ f _ => f)
        have k04 := HN.out.2.1.trans kW4 (fun _ f _ => f)
        have hS4 := hSf.more k4
        have hce := check_any (some ⟨gb, 0, none⟩) m m fs _ (HC.out.1.more k04) hS4 hfok
        unfold checkF faultV at hce
        rw [hck] at hce
        simp only at hce
        have H4 : Hid (Keeps None w (w3.alloc (.cells #[.slice (some ⟨gb, 0, none⟩) m m] 25)) ∧ Keeps None W (w3.alloc (.cells #[.slice (some ⟨gb, 0, none⟩) m m] 25)) ∧ SeenF (w3.alloc (.cells #[.slice (some ⟨gb, 0, none⟩) m m] 25)) (some ⟨gb, 0, none⟩) m fs ∧ (∀ f ∈ fs, f.Ok) ∧ checkV fs = (0, 0, 0) ∧ encV fs = zs ++ [sm] ∧ (w3.alloc (.cells #[.slice (some ⟨gb, 0, none⟩) m m] 25)).heap[P]? = some (.cells #[.slice (some ⟨gb, 0, none⟩) m m] 25 (0, 0))) := ⟨k04, kW4, hS4, hfok, hck, henc, b4⟩
        clear hk3 k4 b4 kW4 k04 hS4 hSf hfok hck henc hdc
        go_upto_region 11 with fail
        rw [← hP]
        clear hP
        generalize w3.alloc (.cells #[.slice (some ⟨gb, 0, none⟩) m m] 25) = w4 at *
        have p0 : w4.cell? ⟨P, 0, none⟩ = some (.slice (some ⟨gb, 0, none⟩) m m) := (cell_of_heap H4.out.2.2.2.2.2.2 0).trans rfl
        go_upto_region 13 with fail
        go_wp2_with fail
        refine hce.mono ?_
        rintro e w5 ⟨rfl, hk5⟩
        clear hce
        have k6 := Keeps.alloc None w5 (.cells #[.int .i64 0, .int .i64 0, .int .i64 0] 31)
        have b6 := heap_alloc_new w5 (.cells #[.int .i64 0, .int .i64 0, .int .i64 0] 31)
        obtain ⟨X, hX⟩ : ∃ X, X = w5.heap.size := ⟨_, rfl⟩
        rw [← hX] at b6
        have k46 := hk5.trans k6 (fun _ f _ => f)
        have p6 := k46.cell p0 (fun f => f)
        have hen := encode_ans (some ⟨gb, 0, none⟩) m m fs _ (HC.out.1.more (H4.out.1.trans k46 (fun _ f _ => f))) (H4.out.2.2.1.more k46) H4.out.2.2.2.1
        rw [show (checkV fs).1 = 0 by rw [H4.out.2.2.2.2.1]] at hen
        have H6 : Hid (Keeps None w4 (w5.alloc (.cells #[.int .i64 0, .int .i64 0, .int .i64 0] 31)) ∧ (w5.alloc (.cells #[.int .i64 0, .int .i64 0, .int .i64 0] 31)).heap[X]? = some (.cells #[.int .i64 0, .int .i64 0, .int .i64 0] 31 (0, 0))) := ⟨k46, b6⟩
        clear p0 hk5 k6 b6 k46
        go_upto_region 14 with fail
        rw [← hX]
        clear hX
        generalize w5.alloc (.cells #[.int .i64 0, .int .i64 0, .int .i64 0] 31) = w6 at *
        go_wp2_with fail
        refine hen.mono ?_
        rintro e w7 ⟨x, NN, cap, rfl, hk7, hA⟩
        clear p6 hen
        have hans : ansW fs = zs ++ [sm] := by rw [ansW, if_pos (by rw [H4.out.2.2.2.2.1]), H4.out.2.2.2.2.2.1]
        have hz1 := hA.seen
        rw [hans] at hz1
        have hNN : NN = N1 := by rw [hz1.len]; exact HN.out.2.2
        subst hNN
        have kW7 := (H4.out.2.1.trans H6.out.1 (fun _ f _ => f)).trans hk7 (fun _ f _ => f)
        have hz2 := (HN.out.1.kept kW7 (fun f => f)).seen _ HN.out.2.2.symm (by have := HC.out.2.2.2.1; omega)
        have hsw := sameWords_any x (some ⟨L, 0, none⟩) NN cap NN (zs ++ [sm]) w7 hz1 hz2
        have f0 : w7.cell? ⟨X, 0, none⟩ = some (.int .i64 0) := hk7.cell ((cell_of_heap H6.out.2 0).trans rfl) (fun f => f)
        have H7 : Hid (Keeps None w w7) := HN.out.2.1.trans kW7 (fun _ f _ => f)
        clear hk7 hA hans hz1 hz2 kW7
        go_upto_region 15 with fail
        go_wp2_with fail
        refine hsw.mono ?_
        rintro e w8 ⟨rfl, hk8⟩
        have H8 : Hid (Keeps None w w8) := H7.out.trans hk8 (fun _ f _ => f)
        clear hk8 hsw
        go_wp2_with fail
        go_ret
        exact ⟨rfl, H8.out⟩
end Go.Proofs.YtcjmceedkfjbeaaDoor
