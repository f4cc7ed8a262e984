import Derived.Test.YtcjmceedkfjbeaaDoorPkAP
import Derived.Test.YtcjmceedkfjbeaaDoorPkBE
import Derived.Test.YtcjmceedkfjbeaaDoorPkAI
/-! ProgWords. -/
namespace Go.Proofs.YtcjmceedkfjbeaaDoor
set_option linter.unusedVariables false
set_option maxRecDepth 20000
open Go.RowKit Go.HeapKit

/-- Words in a block of their own. -/
def IsW (w : World) (g : Nat) (l : List Int) : Prop := w.heap[g]? = some (.cells (l.map (Value.int .i64)).toArray 2 (0, 0))
theorem IsW.kept {w w' : World} {S : Nat → Prop} {g : Nat} {l : List Int} (h : IsW w g l) (hk : Keeps S w w') (hS : ¬ S g) : IsW w' g l := blk_kept h hk hS
theorem IsW.at {w : World} {g : Nat} {l : List Int} (h : IsW w g l) {k : Nat} {x : Int} (hx : l[k]? = some x) : w.cell? ⟨g, k, none⟩ = some (.int .i64 x) := by
  rw [blk_cell h]
  simp [hx]
theorem IsW.set {w : World} {g : Nat} {l : List Int} (h : IsW w g l) (k : Nat) (x : Int) : IsW (w.setCell ⟨g, k, none⟩ (.int .i64 x)) g (l.set k x) := by
  unfold IsW at *
  rw [blk_set h, List.map_set]
  simp
theorem IsW.seen {w : World} {g : Nat} {l : List Int} (h : IsW w g l) (n : Nat) (hn : n = l.length) (hm : n ≤ 4611686018427387904) : SeenZ w (some ⟨g, 0, none⟩) n l :=
  ⟨hn, hm, fun _ => ⟨g, 0, rfl, blk_lt h, fun k x hx => by rw [Nat.zero_add]; exact h.at hx⟩⟩
theorem words_made (w : World) (n : Nat) (hn : n * 8 ≤ 140737488355328) : ∃ w', (Instr.makeSlice 22 (.int .i64 n) (.int .i64 n)).run Tryd.prog w = .ok (.slice (some ⟨w.heap.size, 0, none⟩) n n) w' ∧ IsW w' w.heap.size (List.replicate n 0) ∧ Keeps None w w' := by
  obtain ⟨i0, hi, hz0, hz1, hz2⟩ := info_parts Tryd.infoI64
  obtain ⟨M, hM, _, hr⟩ := run_make_block (P := Tryd.prog) (w := w) 22 2 i0 _ 1 8 Tryd.underlying22 hi hz0 hz1 hz2 n (by omega) (by omega)
  refine ⟨_, hr, ?_, Keeps.alloc None w _⟩
  unfold IsW
  rw [heap_alloc_new, hM, Nat.mul_one, made_one _ rfl]
  congr 3
  apply List.ext_getElem <;> simp
theorem fold_ok (l : List Int) (h : Int) (hh : okI h) : okI (l.foldl stepS h) := by
  induction l generalizing h with
  | nil => exact hh
  | cons x l ih => exact ih _ (by unfold okI stepS wrap64; omega)
theorem sumV_ok (l : List Int) : okI (sumV l) := fold_ok l 0 (by simp [okI])
/-- The words so far. -/
def wordsK (zs : List Int) (k : Nat) : List Int := zs.take k ++ List.replicate (zs.length + 1 - k) 0
theorem wordsK_step (zs : List Int) (k : Nat) (x : Int) (hx : zs[k]? = some x) : (wordsK zs k).set k x = wordsK zs (k + 1) := by
  have hk := (List.getElem?_eq_some_iff.1 hx).1
  unfold wordsK
  rw [List.set_append_right _ _ (by simp; omega), show k - (zs.take k).length = 0 by simp; omega, show zs.length + 1 - k = (zs.length + 1 - (k + 1)) + 1 by omega, List.replicate_succ, List.set_cons_zero, List.take_add_one, hx]
  simp
theorem wordsK_end (zs : List Int) (x : Int) : (wordsK zs zs.length).set zs.length x = zs ++ [x] := by
  unfold wordsK
  rw [List.take_of_length_le (Nat.le_refl _), show zs.length + 1 - zs.length = 1 by omega, List.set_append_right _ _ (by omega)]
  simp [List.replicate]
theorem wordsK_len (zs : List Int) (k : Nat) (hk : k ≤ zs.length) : (wordsK zs k).length = zs.length + 1 := by simp [wordsK]; omega
set_option maxHeartbeats 2000000 in
theorem progWords_walk (a : Option Addr) (n c : Nat) (zs : List Int) (w : World) (hT : Tabs w) (hS : SeenW w a n zs) (hr : n * 8 ≤ 140737488351232) :
    Calls Tryd.prog 3 #[.slice a n c] w fun e w' => e = .returned (.bool true) ∧ Keeps None w w' := by
  have hlen := hS.len
  obtain ⟨N1, hN1⟩ : ∃ N1, N1 = n + 1 := ⟨_, rfl⟩
  obtain ⟨w1, hmk, hI1, hk1⟩ := words_made w N1 (by omega)
  obtain ⟨L, hL⟩ : ∃ L, L = w.heap.size := ⟨_, rfl⟩
  rw [← hL] at hmk hI1
  have HC : Hid (Tabs w ∧ SeenW w a n zs ∧ n = zs.length ∧ N1 = n + 1 ∧ L = w.heap.size) := ⟨hT, hS, hlen, hN1, hL⟩
  have H1 : Hid (IsW w1 L (wordsK zs 0) ∧ Keeps None w w1) := ⟨by rw [show wordsK zs 0 = List.replicate N1 0 by simp [wordsK, hN1, hlen]]; exact hI1, hk1⟩
  have hnb : (n : Int) ≤ 4611686018427387904 := by omega
  have e1 : IntKind.i64.wrap ((n : Int) + 1) = (N1 : Int) := by rw [Go.IntWalk.i64_in _ (by omega)]; omega
  have i9 : (n : Int) < (N1 : Int) := by omega
  have i9' : n < N1 := by omega
  clear hT hS hlen hN1 hL hI1 hk1
  go_enter Tryd.func3, Tryd.ntmps3
  go_upto_region 3 with (at_make; refine wpList_make_run rfl (.tmp 15) (.tmp 15) 22 rfl rfl rfl hmk ?_)
  clear hmk
  go_wp2_with fail
  go_loopw [5, 6] (fun s5 s6 wr => ∃ k : Nat, k ≤ n ∧ s6 = .int .i64 k ∧ s5 = .int .i64 (sumV (zs.take k)) ∧ IsW wr L (wordsK zs k) ∧ Keeps None w wr) (fun _ i _ => n - (intOf i).toNat)
  case atStart => exact ⟨0, Nat.zero_le _, rfl, by simp [sumV], H1.out.1, H1.out.2⟩
  case round =>
    obtain ⟨k, hk, rfl, rfl, hI, hkp⟩ := hrel
    by_cases hkn : k < n
    · obtain ⟨b, off, rfl, hbl, hc⟩ := HC.out.2.1.ex (by omega)
      obtain ⟨x, hx⟩ : ∃ x, zs[k]? = some x := ⟨zs[k]'(by have := HC.out.2.2.1; omega), List.getElem?_eq_getElem _⟩
      have y := hkp.cell (hc k x hx) (fun f => f)
      have hwl := wordsK_len zs k (by have := HC.out.2.2.1; omega)
      have u := hI.at (List.getElem?_eq_getElem (by have := HC.out.2.2.1; omega : k < (wordsK zs k).length))
      have fz := blk_free hI k
      generalize (wordsK zs k)[k]'(by have := HC.out.2.2.1; omega) = v at u
      have hI2 := hI.set k x
      rw [wordsK_step zs k x hx] at hI2
      have kS : Keeps (· = L) wr (wr.setCell ⟨L, k, none⟩ (.int .i64 x)) := Keeps.setCell (S := (· = L)) wr (a := ⟨L, k, none⟩) rfl _
      have kw : Keeps None w (wr.setCell ⟨L, k, none⟩ (.int .i64 x)) := hkp.trans kS (fun i e hi => by have := HC.out.2.2.2.2; omega)
      have y2 := kw.cell (hc k x hx) (fun f => f)
      have i1 : (k : Int) < (n : Int) := by omega
      have i2 : (k : Int) < (N1 : Int) := by omega
      have i2' : k < N1 := by omega
      obtain ⟨s, hs⟩ : ∃ s, s = sumV (zs.take k) := ⟨_, rfl⟩
      rw [← hs]
      have HX : Hid (sumV (zs.take (k + 1)) = stepS s x) := by
        have e : zs.take (k + 1) = zs.take k ++ [x] := by
          rw [List.take_add_one, hx]; rfl
        unfold Hid
        rw [e, sumV_snoc, hs]
      have HN : Hid (IsW (wr.setCell ⟨L, k, none⟩ (.int .i64 x)) L (wordsK zs (k + 1)) ∧ Keeps None w (wr.setCell ⟨L, k, none⟩ (.int .i64 x))) := ⟨hI2, kw⟩
      clear hc hx hs hI hkp hI2 kS kw hwl
      go_upto_region 8 with fail
      generalize wr.setCell ⟨L, k, none⟩ (.int .i64 x) = W at *
      clear y u fz
      go_wp2_with fail
      refine ⟨⟨k + 1, by omega, by simp, ?_, HN.out.1, HN.out.2⟩, by simp [intOf]; omega⟩
      rw [HX.out]
      rfl
    · have i1 : ¬ ((k : Int) < (n : Int)) := by omega
      have hkn2 : k = n := by omega
      subst hkn2
      have hkz := HC.out.2.2.1
      rw [List.take_of_length_le (by omega : zs.length ≤ k)]
      have hwl := wordsK_len zs k (by omega)
      have u := hI.at (List.getElem?_eq_getElem (by omega : k < (wordsK zs k).length))
      have fz := blk_free hI k
      generalize (wordsK zs k)[k]'(by omega) = v at u
      obtain ⟨sm, hsm⟩ : ∃ sm, sm = sumV zs := ⟨_, rfl⟩
      rw [← hsm]
      have hI2 := hI.set k sm
      rw [show (wordsK zs k).set k sm = zs ++ [sm] by rw [hkz]; exact wordsK_end zs sm] at hI2
      have kS : Keeps (· = L) wr (wr.setCell ⟨L, k, none⟩ (.int .i64 sm)) := Keeps.setCell (S := (· = L)) wr (a := ⟨L, k, none⟩) rfl _
      have kw : Keeps None w (wr.setCell ⟨L, k, none⟩ (.int .i64 sm)) := hkp.trans kS (fun i e hi => by have := HC.out.2.2.2.2; omega)
      have hok : ∀ y ∈ zs ++ [sm], okI y := fun y hy => by
        rcases List.mem_append.1 hy with hy | hy
        · exact HC.out.2.1.ok y hy
        · rw [List.mem_singleton.1 hy, hsm]; exact sumV_ok zs
      have hSW : SeenW (wr.setCell ⟨L, k, none⟩ (.int .i64 sm)) (some ⟨L, 0, none⟩) (k + 1) (zs ++ [sm]) := ⟨by simp; omega, by omega, hok, fun _ => ⟨L, 0, rfl, blk_lt hI2, fun j y hy => by rw [Nat.zero_add]; exact hI2.at hy⟩⟩
      have hdc := decode_right L 0 k N1 (zs ++ [sm]) sm _ (HC.out.1.more kw) hSW (by have := HC.out.2.2.2.1; omega) (by have := HC.out.2.2.2.1; unfold maxLen; omega) (by rw [hkz]; simp) (by rw [hkz]; simpa using hsm)
      rw [← HC.out.2.2.2.1] at hdc
      have HN : Hid (IsW (wr.setCell ⟨L, k, none⟩ (.int .i64 sm)) L (zs ++ [sm]) ∧ Keeps None w (wr.setCell ⟨L, k, none⟩ (.int .i64 sm)) ∧ (zs ++ [sm]).length = N1) := ⟨hI2, kw, by have := HC.out.2.2.2.1; simp; omega⟩
      clear hI hkp hI2 kS kw hok hSW hsm hwl hkz
      go_upto_region 10 with fail
      generalize wr.setCell ⟨L, k, none⟩ (.int .i64 sm) = W at *
      clear u fz
      go_wp2_with fail
      refine hdc.mono ?_
      rintro _ w3 ⟨hk3, ⟨e', he', rfl⟩ | ⟨gb, m, fs, rfl, hSf, hfok, hck, henc⟩⟩
      · have k4 := Keeps.alloc None w3 (.cells #[.slice none 0 0] 25)
        have b4 := heap_alloc_new w3 (.cells #[.slice none 0 0] 25)
        obtain ⟨P, hP⟩ : ∃ P, P = w3.heap.size := ⟨_, rfl⟩
        rw [← hP] at b4
        have k04 := (HN.out.2.1.trans hk3 (fun _ f _ => f)).trans k4 (fun _ f _ => f)
        have p0 := (cell_of_heap b4 0).trans rfl
        have hhd := head_any _ (HC.out.1.more k04)
        have H4 : Hid _ := k04
        clear hk3 k4 b4 k04 hdc
        go_upto_region 11 with fail
        rw [← hP]
        clear hP
        generalize w3.alloc (.cells #[.slice none 0 0] 25) = w4 at *
        go_wp2_with fail
        refine hhd.mono ?_
        rintro e w5 ⟨rfl, hk5⟩
        have H5 : Hid (Keeps None w w5) := H4.out.trans hk5 (fun _ f _ => f)
        clear hk5 hhd
        go_wp2_with fail
        go_ret
        exact ⟨rfl, H5.out⟩
      · have k4 := Keeps.alloc None w3 (.cells #[.slice (some ⟨gb, 0, none⟩) m m] 25)
        have b4 := heap_alloc_new w3 (.cells #[.slice (some ⟨gb, 0, none⟩) m m] 25)
        obtain ⟨P, hP⟩ : ∃ P, P = w3.heap.size := ⟨_, rfl⟩
        rw [← hP] at b4
        have kW4 := hk3.trans k4 (fun _ f _ => f)
        have k04 := HN.out.2.1.trans kW4 (fun _ f _ => f)
        have hS4 := hSf.more k4
        have hce := check_any (some ⟨gb, 0, none⟩) m m fs _ (HC.out.1.more k04) hS4 hfok
        unfold checkF faultV at hce
        rw [hck] at hce
        simp only at hce
        have H4 : Hid (Keeps None w (w3.alloc (.cells #[.slice (some ⟨gb, 0, none⟩) m m] 25)) ∧ Keeps None W (w3.alloc (.cells #[.slice (some ⟨gb, 0, none⟩) m m] 25)) ∧ SeenF (w3.alloc (.cells #[.slice (some ⟨gb, 0, none⟩) m m] 25)) (some ⟨gb, 0, none⟩) m fs ∧ (∀ f ∈ fs, f.Ok) ∧ checkV fs = (0, 0, 0) ∧ encV fs = zs ++ [sm] ∧ (w3.alloc (.cells #[.slice (some ⟨gb, 0, none⟩) m m] 25)).heap[P]? = some (.cells #[.slice (some ⟨gb, 0, none⟩) m m] 25 (0, 0))) := ⟨k04, kW4, hS4, hfok, hck, henc, b4⟩
        clear hk3 k4 b4 kW4 k04 hS4 hSf hfok hck henc hdc
        go_upto_region 11 with fail
        rw [← hP]
        clear hP
        generalize w3.alloc (.cells #[.slice (some ⟨gb, 0, none⟩) m m] 25) = w4 at *
        have p0 : w4.cell? ⟨P, 0, none⟩ = some (.slice (some ⟨gb, 0, none⟩) m m) := (cell_of_heap H4.out.2.2.2.2.2.2 0).trans rfl
        go_upto_region 13 with fail
        go_wp2_with fail
        refine hce.mono ?_
        rintro e w5 ⟨rfl, hk5⟩
        clear hce
        have k6 := Keeps.alloc None w5 (.cells #[.int .i64 0, .int .i64 0, .int .i64 0] 31)
        have b6 := heap_alloc_new w5 (.cells #[.int .i64 0, .int .i64 0, .int .i64 0] 31)
        obtain ⟨X, hX⟩ : ∃ X, X = w5.heap.size := ⟨_, rfl⟩
        rw [← hX] at b6
        have k46 := hk5.trans k6 (fun _ f _ => f)
        have p6 := k46.cell p0 (fun f => f)
        have hen := encode_ans (some ⟨gb, 0, none⟩) m m fs _ (HC.out.1.more (H4.out.1.trans k46 (fun _ f _ => f))) (H4.out.2.2.1.more k46) H4.out.2.2.2.1
        rw [show (checkV fs).1 = 0 by rw [H4.out.2.2.2.2.1]] at hen
        have H6 : Hid (Keeps None w4 (w5.alloc (.cells #[.int .i64 0, .int .i64 0, .int .i64 0] 31)) ∧ (w5.alloc (.cells #[.int .i64 0, .int .i64 0, .int .i64 0] 31)).heap[X]? = some (.cells #[.int .i64 0, .int .i64 0, .int .i64 0] 31 (0, 0))) := ⟨k46, b6⟩
        clear p0 hk5 k6 b6 k46
        go_upto_region 14 with fail
        rw [← hX]
        clear hX
        generalize w5.alloc (.cells #[.int .i64 0, .int .i64 0, .int .i64 0] 31) = w6 at *
        go_wp2_with fail
        refine hen.mono ?_
        rintro e w7 ⟨x, NN, cap, rfl, hk7, hA⟩
        clear p6 hen
        have hans : ansW fs = zs ++ [sm] := by rw [ansW, if_pos (by rw [H4.out.2.2.2.2.1]), H4.out.2.2.2.2.2.1]
        have hz1 := hA.seen
        rw [hans] at hz1
        have hNN : NN = N1 := by rw [hz1.len]; exact HN.out.2.2
        subst hNN
        have kW7 := (H4.out.2.1.trans H6.out.1 (fun _ f _ => f)).trans hk7 (fun _ f _ => f)
        have hz2 := (HN.out.1.kept kW7 (fun f => f)).seen _ HN.out.2.2.symm (by have := HC.out.2.2.2.1; omega)
        have hsw := sameWords_any x (some ⟨L, 0, none⟩) NN cap NN (zs ++ [sm]) w7 hz1 hz2
        have f0 : w7.cell? ⟨X, 0, none⟩ = some (.int .i64 0) := hk7.cell ((cell_of_heap H6.out.2 0).trans rfl) (fun f => f)
        have H7 : Hid (Keeps None w w7) := HN.out.2.1.trans kW7 (fun _ f _ => f)
        clear hk7 hA hans hz1 hz2 kW7
        go_upto_region 15 with fail
        go_wp2_with fail
        refine hsw.mono ?_
        rintro e w8 ⟨rfl, hk8⟩
        have H8 : Hid (Keeps None w w8) := H7.out.trans hk8 (fun _ f _ => f)
        clear hk8 hsw
        go_wp2_with fail
        go_ret
        exact ⟨rfl, H8.out⟩
end Go.Proofs.YtcjmceedkfjbeaaDoor
/-! decodePlaced. -/
namespace Go.Proofs.YtcjmceedkfjbeaaDoor
set_option linter.unusedVariables false
set_option maxRecDepth 20000
open Go.RowKit Go.HeapKit

/-- The words turned. -/
def turnW (zs : List Int) : List Int := (zs.reverse).map (fun x => wrap64 (x + 1))
theorem turnW_len (zs : List Int) : (turnW zs).length = zs.length := by simp [turnW]
theorem turnW_at (zs : List Int) (k : Nat) (x : Int) (hk : k < zs.length) (hx : zs[zs.length - 1 - k]? = some x) : (turnW zs)[k]? = some (wrap64 (x + 1)) := by
  unfold turnW
  rw [List.getElem?_map, List.getElem?_reverse hk, hx]
  rfl
/-- A row while it is filled. -/
def fillW (zs old : List Int) (k : Nat) : List Int := zs.take k ++ old.drop k
theorem fillW_step (zs old : List Int) (k : Nat) (x : Int) (hx : zs[k]? = some x) (hl : old.length = zs.length) : (fillW zs old k).set k x = fillW zs old (k + 1) := by
  have hk := (List.getElem?_eq_some_iff.1 hx).1
  unfold fillW
  rw [List.set_append_right _ _ (by simp; omega), show k - (zs.take k).length = 0 by simp; omega, List.drop_eq_getElem_cons (by omega : k < old.length), List.set_cons_zero, List.take_add_one, hx]
  simp
theorem fillW_len (zs old : List Int) (k : Nat) (hl : old.length = zs.length) (hk : k ≤ zs.length) : (fillW zs old k).length = zs.length := by simp [fillW]; omega
theorem fillW_end (zs old : List Int) (hl : old.length = zs.length) : fillW zs old zs.length = zs := by
  unfold fillW
  rw [List.take_of_length_le (Nat.le_refl _), List.drop_eq_nil_of_le (by omega), List.append_nil]
theorem IsW.seenW {w : World} {g : Nat} {l : List Int} (h : IsW w g l) (n : Nat) (hn : n = l.length) (hm : n ≤ 9223372036854775807) (hok : ∀ x ∈ l, okI x) : SeenW w (some ⟨g, 0, none⟩) n l :=
  ⟨hn, hm, hok, fun _ => ⟨g, 0, rfl, blk_lt h, fun k x hx => by rw [Nat.zero_add]; exact h.at hx⟩⟩
theorem turnW_ok (zs : List Int) : ∀ x ∈ turnW zs, okI x := fun x hx => by
  simp only [turnW, List.mem_map] at hx
  obtain ⟨y, _, rfl⟩ := hx
  unfold okI wrap64
  omega
set_option maxHeartbeats 4000000 in
theorem decodePlaced_any (a : Option Addr) (n c : Nat) (zs : List Int) (w : World) (hT : Tabs w) (hS : SeenW w a n zs) (hc : n ≤ c) (hcm : c ≤ maxLen) (hr : n * 8 ≤ 140737488351232) :
    Calls Tryd.prog 14 #[.slice a n c] w fun e w' => e = .returned (.bool true) ∧ Keeps None w w' := by
  have hlen := hS.len
  obtain ⟨w1, hmk1, hI1, hk1⟩ := words_made w n (by omega)
  obtain ⟨w2, hmk2, hI2, hk2⟩ := words_made w1 n (by omega)
  obtain ⟨L, hL⟩ : ∃ L, L = w.heap.size := ⟨_, rfl⟩
  obtain ⟨T, hTT⟩ : ∃ T, T = w1.heap.size := ⟨_, rfl⟩
  rw [← hL] at hmk1 hI1
  rw [← hTT] at hmk2 hI2
  have hLT : L < T := by rw [hTT]; exact blk_lt hI1
  obtain ⟨ts, hts⟩ : ∃ ts, ts = turnW zs := ⟨_, rfl⟩
  have HC : Hid (Tabs w ∧ SeenW w a n zs ∧ n = zs.length ∧ L = w.heap.size ∧ ts = turnW zs ∧ ts.length = n ∧ (∀ x ∈ ts, okI x)) := ⟨hT, hS, hlen, hL, hts, by rw [hts, turnW_len, hlen], by rw [hts]; exact turnW_ok zs⟩
  obtain ⟨o, ho⟩ : ∃ o, o = List.replicate n (0 : Int) := ⟨_, rfl⟩
  have HO : Hid (o.length = n) := by unfold Hid; rw [ho]; simp
  have H2 : Hid (IsW w2 L (fillW ts o 0) ∧ IsW w2 T (fillW ts o 0) ∧ Keeps None w w2) := ⟨by simp only [fillW, List.take_zero, List.nil_append, List.drop_zero]; rw [ho]; exact hI1.kept hk2 (fun f => f), by simp only [fillW, List.take_zero, List.nil_append, List.drop_zero]; rw [ho]; exact hI2, hk1.trans hk2 (fun _ f _ => f)⟩
  have hnb : (n : Int) ≤ 4611686018427387904 := by omega
  have HTw : Hid (w.heap.size ≤ T) := by unfold Hid; rw [hTT]; exact hk1.size
  have nLT : ¬ L = T := by omega
  have nTL : ¬ T = L := by omega
  clear hT hS hlen hL hts hI1 hI2 hk1 hk2 ho hTT hLT
  go_enter Tryd.func14, Tryd.ntmps14
  go_upto_region 3 with (at_make; refine wpList_make_run rfl (.tmp 18) (.tmp 18) 22 rfl rfl rfl hmk1 ?_)
  go_upto_region 4 with (at_make; refine wpList_make_run rfl (.tmp 20) (.tmp 20) 22 rfl rfl rfl hmk2 ?_)
  clear hmk1 hmk2
  go_wp2_with fail
  go_loopw [6] (fun s6 wr => ∃ k : Nat, k ≤ n ∧ s6 = .int .i64 k ∧ IsW wr L (fillW ts o k) ∧ IsW wr T (fillW ts o k) ∧ Keeps None w wr) (fun i _ => n - (intOf i).toNat)
  case atStart => exact ⟨0, Nat.zero_le _, rfl, H2.out.1, H2.out.2.1, H2.out.2.2⟩
  case round =>
    obtain ⟨k, hk, rfl, hIL, hIT, hkp⟩ := hrel
    have hzl := HC.out.2.2.1
    have htl := HC.out.2.2.2.2.2.1
    by_cases hkn : k < n
    · obtain ⟨b, off, rfl, hbl, hcl⟩ := HC.out.2.1.ex (by omega)
      obtain ⟨J, hJ⟩ : ∃ J, J = n - 1 - k := ⟨_, rfl⟩
      obtain ⟨x, hx⟩ : ∃ x, zs[J]? = some x := ⟨zs[J]'(by omega), List.getElem?_eq_getElem _⟩
      have y := hkp.cell (hcl J x hx) (fun f => f)
      obtain ⟨v, hv⟩ : ∃ v, v = wrap64 (x + 1) := ⟨_, rfl⟩
      have htk : ts[k]? = some v := by rw [HC.out.2.2.2.2.1, hv]; exact turnW_at zs k x (by omega) (by rw [← hzl, ← hJ]; exact hx)
      have hfl := fillW_len ts o k (by rw [HO.out, htl]) (by omega)
      have uT := hIT.at (List.getElem?_eq_getElem (by omega : k < (fillW ts o k).length))
      have fT := blk_free hIT k
      have uL := hIL.at (List.getElem?_eq_getElem (by omega : k < (fillW ts o k).length))
      have fL := blk_free hIL k
      generalize (fillW ts o k)[k]'(by omega) = v0 at uT uL
      have kS : Keeps (· = T) wr (wr.setCell ⟨T, k, none⟩ (.int .i64 v)) := Keeps.setCell (S := (· = T)) wr (a := ⟨T, k, none⟩) rfl _
      have hIT2 := hIT.set k v
      rw [fillW_step ts o k v htk (by rw [HO.out, htl])] at hIT2
      have hIL1 := hIL.kept kS nLT
      have uT2 := hIT2.at (k := k) (x := v) (by unfold fillW; rw [List.getElem?_append_left (by simp; omega), List.getElem?_take, if_pos (by omega)]; exact htk)
      have uL2 := hIL1.at (k := k) (x := v0) (by
        have h1 := blk_cell hIL k
        rw [uL] at h1
        simpa using h1.symm)
      have fL2 := blk_free hIL1 k
      have kS2 : Keeps (· = L) (wr.setCell ⟨T, k, none⟩ (.int .i64 v)) ((wr.setCell ⟨T, k, none⟩ (.int .i64 v)).setCell ⟨L, k, none⟩ (.int .i64 v)) := Keeps.setCell (S := (· = L)) _ (a := ⟨L, k, none⟩) rfl _
      have hIL2 := hIL1.set k v
      rw [fillW_step ts o k v htk (by rw [HO.out, htl])] at hIL2
      have hIT3 := hIT2.kept kS2 nTL
      have hLw := HC.out.2.2.2.1
      have hTw := HTw.out
      have HN : Hid (IsW ((wr.setCell ⟨T, k, none⟩ (.int .i64 v)).setCell ⟨L, k, none⟩ (.int .i64 v)) L (fillW ts o (k + 1)) ∧ IsW ((wr.setCell ⟨T, k, none⟩ (.int .i64 v)).setCell ⟨L, k, none⟩ (.int .i64 v)) T (fillW ts o (k + 1)) ∧ Keeps None w ((wr.setCell ⟨T, k, none⟩ (.int .i64 v)).setCell ⟨L, k, none⟩ (.int .i64 v))) := ⟨hIL2, hIT3, (hkp.trans kS (fun i e hi => by omega)).trans kS2 (fun i e hi => by omega)⟩
      have hv' : wrap64 (x + 1) = v := hv.symm
      have i1 : (k : Int) < (n : Int) := by omega
      have i2 : (n : Int) - 1 - (k : Int) = (J : Int) := by omega
      have i3 : (J : Int) < (n : Int) := by omega
      clear hcl hx hv hJ htk hfl hIL hIT hkp kS hIT2 hIL1 kS2 hIL2 hIT3 hLw hTw hzl htl
      go_upto_region 8 with fail
      generalize wr.setCell ⟨T, k, none⟩ (.int .i64 v) = W at *
      clear y uT fT uL fL i2 i3 hv'
      go_wp2_with fail
      exact ⟨⟨k + 1, by omega, by simp, HN.out.1, HN.out.2.1, HN.out.2.2⟩, by simp [intOf]; omega⟩
    · have i1 : ¬ ((k : Int) < (n : Int)) := by omega
      have hkn2 : k = n := by omega
      subst hkn2
      have hfe := fillW_end ts o (by rw [HO.out, htl])
      rw [htl] at hfe
      rw [hfe] at hIL hIT
      have hd1 := decode_un (some ⟨L, 0, none⟩) k k ts wr (HC.out.1.more hkp) (hIL.seenW k htl.symm (by omega) HC.out.2.2.2.2.2.2) (Nat.le_refl _) (by unfold maxLen; omega)
      obtain ⟨d1, hde1⟩ : ∃ d1, d1 = decV ts := ⟨_, rfl⟩
      obtain ⟨d2, hde2⟩ : ∃ d2, d2 = decV zs := ⟨_, rfl⟩
      obtain ⟨s1, hs1⟩ : ∃ s1, s1 = d1.1 := ⟨_, rfl⟩
      obtain ⟨s2, hs2⟩ : ∃ s2, s2 = d2.1 := ⟨_, rfl⟩
      rw [← hde1, ← hs1] at hd1
      have H3 : Hid (IsW wr L (fillW zs ts 0) ∧ IsW wr T ts ∧ Keeps None w wr ∧ d1 = decV ts ∧ d2 = decV zs ∧ s1 = d1.1 ∧ s2 = d2.1 ∧ k = zs.length ∧ ts.length = k) := ⟨by simp only [fillW, List.take_zero, List.nil_append, List.drop_zero]; exact hIL, hIT, hkp, hde1, hde2, hs1, hs2, hzl, htl⟩
      clear hIL hIT hkp hfe hzl htl hde1 hde2 hs1 hs2
      go_upto_region 9 with fail
      go_wp2_with fail
      refine hd1.mono ?_
      rintro _ w3 ⟨xa, m1, xc, rfl, hA1, hk3⟩
      clear hd1
      have k4 := Keeps.alloc None w3 (.cells #[.slice xa m1 xc] 25)
      have b4 := heap_alloc_new w3 (.cells #[.slice xa m1 xc] 25)
      obtain ⟨P1, hP1⟩ : ∃ P1, P1 = w3.heap.size := ⟨_, rfl⟩
      rw [← hP1] at b4
      have k04 := hk3.trans k4 (fun _ f _ => f)
      have hLlt := blk_lt H3.out.1
      have H4 : Hid ((w3.alloc (.cells #[.slice xa m1 xc] 25)).heap[P1]? = some (.cells #[.slice xa m1 xc] 25 (0, 0)) ∧ AnsD (L + 1) (w3.alloc (.cells #[.slice xa m1 xc] 25)) xa m1 d1.2 ∧ IsW (w3.alloc (.cells #[.slice xa m1 xc] 25)) L (fillW zs ts 0) ∧ IsW (w3.alloc (.cells #[.slice xa m1 xc] 25)) T ts ∧ Keeps None w (w3.alloc (.cells #[.slice xa m1 xc] 25)) ∧ L < P1) := by
        refine ⟨b4, ?_, H3.out.1.kept k04 (fun f => f), H3.out.2.1.kept k04 (fun f => f), H3.out.2.2.1.trans k04 (fun _ f _ => f), by have := hk3.size; omega⟩
        rcases (hA1.more k4) with h | ⟨gb, E, e, h⟩
        · exact .inl h
        · exact .inr ⟨gb, E, e, ⟨h.blk, h.len, h.num, fun j f hj hf => by obtain ⟨cb, q1, q2, q3⟩ := h.laid j f hj hf; exact ⟨cb, q1, q2, by omega⟩, by have := h.low; omega, h.dis⟩⟩
      clear hA1 hk3 k4 b4 k04 hLlt
      go_upto_region 10 with fail
      rw [← hP1]
      clear hP1
      generalize w3.alloc (.cells #[.slice xa m1 xc] 25) = w4 at *
      go_wp2_with fail
      go_loopw [9] (fun s9 wx => ∃ j : Nat, j ≤ k ∧ s9 = .int .i64 j ∧ IsW wx L (fillW zs ts j) ∧ Keeps (· = L) w4 wx) (fun i _ => k - (intOf i).toNat)
      case atStart => exact ⟨0, Nat.zero_le _, rfl, H4.out.2.2.1, Keeps.refl _ _⟩
      case round =>
        obtain ⟨j, hj, rfl, hIL, hkx⟩ := hrel
        have hkw : Keeps None w wr := H4.out.2.2.2.2.1.trans hkx (fun i e hi => by have := HC.out.2.2.2.1; omega)
        have hzl := H3.out.2.2.2.2.2.2.2.1
        have htl := H3.out.2.2.2.2.2.2.2.2
        by_cases hjk : j < k
        · obtain ⟨b, off, rfl, hbl, hcl⟩ := HC.out.2.1.ex (by omega)
          obtain ⟨x, hx⟩ : ∃ x, zs[j]? = some x := ⟨zs[j]'(by omega), List.getElem?_eq_getElem _⟩
          have y := hkw.cell (hcl j x hx) (fun f => f)
          have hfl := fillW_len zs ts j (by omega) (by omega)
          have uL := hIL.at (List.getElem?_eq_getElem (by omega : j < (fillW zs ts j).length))
          have fL := blk_free hIL j
          generalize (fillW zs ts j)[j]'(by omega) = v0 at uL
          have hIL2 := hIL.set j x
          rw [fillW_step zs ts j x hx (by omega)] at hIL2
          have i2 : (j : Int) < (k : Int) := by omega
          have HN : Hid (IsW (wr.setCell ⟨L, j, none⟩ (.int .i64 x)) L (fillW zs ts (j + 1)) ∧ Keeps (· = L) w4 (wr.setCell ⟨L, j, none⟩ (.int .i64 x))) := ⟨hIL2, hkx.andSet (x := ⟨L, j, none⟩) (.inl rfl) _⟩
          clear hcl hx hfl hIL hkx hIL2 hkw hzl htl
          go_wp2_with fail
          exact ⟨⟨j + 1, by omega, by simp, HN.out.1, HN.out.2⟩, by simp [intOf]; omega⟩
        · have i2 : ¬ ((j : Int) < (k : Int)) := by omega
          have hjk2 : j = k := by omega
          subst hjk2
          have hfe := fillW_end zs ts (by omega)
          rw [← hzl] at hfe
          rw [hfe] at hIL
          have hA1 := H4.out.2.1.kept hkx (fun i e => by omega)
          have bP1 := blk_kept H4.out.1 hkx (by have := H4.out.2.2.2.2.2; omega)
          have hIT := H4.out.2.2.2.1.kept hkx nTL
          have hd2 := decode_un (some ⟨L, 0, none⟩) j j zs wr (HC.out.1.more hkw) (hIL.seenW j hzl (by omega) HC.out.2.1.ok) (Nat.le_refl _) (by unfold maxLen; omega)
          rw [← H3.out.2.2.2.2.1, ← H3.out.2.2.2.2.2.2.1] at hd2
          have H5 : Hid (AnsD (L + 1) wr xa m1 d1.2 ∧ wr.heap[P1]? = some (.cells #[.slice xa m1 xc] 25 (0, 0)) ∧ IsW wr T ts ∧ Keeps None w wr) := ⟨hA1, bP1, hIT, hkw⟩
          clear hIL hkx hkw hA1 bP1 hIT hfe hzl htl
          go_upto_region 14 with fail
          go_wp2_with fail
          refine hd2.mono ?_
          rintro _ w5 ⟨ya, m2, yc, rfl, hA2, hk5⟩
          clear hd2
          have k6 := Keeps.alloc None w5 (.cells #[.slice ya m2 yc] 25)
          have b6 := heap_alloc_new w5 (.cells #[.slice ya m2 yc] 25)
          obtain ⟨P2, hP2⟩ : ∃ P2, P2 = w5.heap.size := ⟨_, rfl⟩
          rw [← hP2] at b6
          have k56 := hk5.trans k6 (fun _ f _ => f)
          have H6 : Hid (SeenF (w5.alloc (.cells #[.slice ya m2 yc] 25)) ya m2 d2.2 ∧ (w5.alloc (.cells #[.slice ya m2 yc] 25)).heap[P2]? = some (.cells #[.slice ya m2 yc] 25 (0, 0)) ∧ Keeps None wr (w5.alloc (.cells #[.slice ya m2 yc] 25))) := ⟨(hA2.more k6).seen, b6, k56⟩
          clear hA2 hk5 k6 b6 k56
          go_upto_region 15 with fail
          rw [← hP2]
          clear hP2
          generalize w5.alloc (.cells #[.slice ya m2 yc] 25) = w6 at *
          have hIT6 := H5.out.2.2.1.kept H6.out.2.2 (fun f => f)
          have hr1 := rdecode_un (some ⟨T, 0, none⟩) j j ts w6 (hIT6.seenW j H3.out.2.2.2.2.2.2.2.2.symm (by omega) HC.out.2.2.2.2.2.2) (Nat.le_refl _) (by unfold maxLen; omega) hr
          rw [← H3.out.2.2.2.1, ← H3.out.2.2.2.2.2.1] at hr1
          clear hIT6
          go_wp2_with fail
          refine hr1.mono ?_
          rintro _ w7 ⟨va, m3, vc, rfl, hS3, hk7⟩
          clear hr1
          have k8 := Keeps.alloc None w7 (.cells #[.slice va m3 vc] 25)
          have b8 := heap_alloc_new w7 (.cells #[.slice va m3 vc] 25)
          obtain ⟨P3, hP3⟩ : ∃ P3, P3 = w7.heap.size := ⟨_, rfl⟩
          rw [← hP3] at b8
          have k68 := hk7.trans k8 (fun _ f _ => f)
          have H8 : Hid (SeenF (w7.alloc (.cells #[.slice va m3 vc] 25)) va m3 d1.2 ∧ (w7.alloc (.cells #[.slice va m3 vc] 25)).heap[P3]? = some (.cells #[.slice va m3 vc] 25 (0, 0)) ∧ Keeps None w6 (w7.alloc (.cells #[.slice va m3 vc] 25))) := ⟨hS3.more k8, b8, k68⟩
          clear hS3 hk7 k8 b8 k68
          go_upto_region 16 with fail
          rw [← hP3]
          clear hP3
          generalize w7.alloc (.cells #[.slice va m3 vc] 25) = w8 at *
          have k08 := (H5.out.2.2.2.trans H6.out.2.2 (fun _ f _ => f)).trans H8.out.2.2 (fun _ f _ => f)
          have hr2 := rdecode_un a j c zs w8 (HC.out.2.1.more k08) hc hcm hr
          rw [← H3.out.2.2.2.2.1, ← H3.out.2.2.2.2.2.2.1] at hr2
          have HK8 : Hid _ := k08
          clear k08
          go_wp2_with fail
          refine hr2.mono ?_
          rintro _ w9 ⟨ua, m4, uc, rfl, hS4, hk9⟩
          clear hr2
          have k10 := Keeps.alloc None w9 (.cells #[.slice ua m4 uc] 25)
          have b10 := heap_alloc_new w9 (.cells #[.slice ua m4 uc] 25)
          obtain ⟨P4, hP4⟩ : ∃ P4, P4 = w9.heap.size := ⟨_, rfl⟩
          rw [← hP4] at b10
          have k810 := hk9.trans k10 (fun _ f _ => f)
          have H10 : Hid (SeenF (w9.alloc (.cells #[.slice ua m4 uc] 25)) ua m4 d2.2 ∧ (w9.alloc (.cells #[.slice ua m4 uc] 25)).heap[P4]? = some (.cells #[.slice ua m4 uc] 25 (0, 0)) ∧ Keeps None w8 (w9.alloc (.cells #[.slice ua m4 uc] 25))) := ⟨hS4.more k10, b10, k810⟩
          clear hS4 hk9 k10 b10 k810
          go_upto_region 17 with fail
          rw [← hP4]
          clear hP4
          generalize w9.alloc (.cells #[.slice ua m4 uc] 25) = w10 at *
          have k6x := H8.out.2.2.trans H10.out.2.2 (fun _ f _ => f)
          have k5x := H6.out.2.2.trans k6x (fun _ f _ => f)
          have kwx := H5.out.2.2.2.trans k5x (fun _ f _ => f)
          have g1 := (cell_of_heap (blk_kept H5.out.2.1 k5x (fun f => f)) 0).trans rfl
          have g2 := (cell_of_heap (blk_kept H6.out.2.1 k6x (fun f => f)) 0).trans rfl
          have g3 := (cell_of_heap (blk_kept H8.out.2.1 H10.out.2.2 (fun f => f)) 0).trans rfl
          have g4 := (cell_of_heap H10.out.2.1 0).trans rfl
          have q1 := (H5.out.1.more k5x).seen
          have q2 := H6.out.1.more k6x
          have q3 := H8.out.1.more H10.out.2.2
          have q4 := H10.out.1
          rw [H3.out.2.2.2.1] at q1 q3
          rw [H3.out.2.2.2.2.1] at q2 q4
          obtain ⟨hm3, hsa⟩ := same_dec xa va m1 m3 xc vc ts w10 q1 q3
          subst hm3
          have HQ : Hid (SeenF w10 ya m2 (decV zs).2 ∧ SeenF w10 ua m4 (decV zs).2 ∧ Keeps None w w10) := ⟨q2, q4, kwx⟩
          clear q1 q2 q3 q4 k6x k5x kwx
          go_wp2_with fail
          refine hsa.mono ?_
          rintro _ w11 ⟨rfl, hk11⟩
          clear hsa
          obtain ⟨hm4, hsb⟩ := same_dec ya ua m2 m4 yc uc zs w11 (HQ.out.1.more hk11) (HQ.out.2.1.more hk11)
          subst hm4
          replace g2 := hk11.cell g2 (fun f => f)
          replace g4 := hk11.cell g4 (fun f => f)
          have H11 : Hid (Keeps None w w11) := HQ.out.2.2.trans hk11 (fun _ f _ => f)
          clear hk11 g1 g3
          go_wp2_with fail
          refine hsb.mono ?_
          rintro _ w12 ⟨rfl, hk12⟩
          have H12 : Hid (Keeps None w w12) := H11.out.trans hk12 (fun _ f _ => f)
          clear hk12 hsb
          go_wp2_with fail
          go_ret
          exact ⟨rfl, H12.out⟩
end Go.Proofs.YtcjmceedkfjbeaaDoor
/-! ProgDecode: what its walk keeps. -/
namespace Go.Proofs.YtcjmceedkfjbeaaDoor
set_option linter.unusedVariables false
set_option maxRecDepth 20000
open Go.RowKit Go.HeapKit

def fil (zs old : List Int) (k : Nat) : List Int := zs.take k ++ old.drop k
theorem fil_step (zs old : List Int) (k : Nat) (x : Int) (hx : zs[k]? = some x) (hl : k < old.length) : (fil zs old k).set k x = fil zs old (k + 1) := by
  have hk := (List.getElem?_eq_some_iff.1 hx).1
  unfold fil
  rw [List.set_append_right _ _ (by simp; omega), show k - (zs.take k).length = 0 by simp; omega, List.drop_eq_getElem_cons hl, List.set_cons_zero, List.take_add_one, hx]
  simp
theorem fil_len (zs old : List Int) (k : Nat) (hk : k ≤ zs.length) (hl : zs.length ≤ old.length) : (fil zs old k).length = old.length := by simp [fil]; omega
theorem fil_end (zs : List Int) (n : Nat) (hn : n = zs.length) : fil zs (List.replicate (n + 2) 0) n = zs ++ [0, 0] := by
  unfold fil
  rw [List.take_of_length_le (by omega), List.drop_replicate, show n + 2 - n = 2 by omega]
  rfl
theorem put_one (zs : List Int) (n : Nat) (hn : n = zs.length) : (zs ++ [0, 0]).set n 123 = zs ++ [123, 0] := by
  rw [List.set_append_right _ _ (by omega), show n - zs.length = 0 by omega]
  rfl
theorem put_two (zs : List Int) (n : Nat) (hn : n = zs.length) : (zs ++ [123, 0]).set (n + 1) 456 = zs ++ [123, 456] := by
  rw [List.set_append_right _ _ (by omega), show n + 1 - zs.length = 1 by omega]
  rfl
theorem IsW.firstW {w : World} {g : Nat} {zs r : List Int} {n : Nat} (h : IsW w g (zs ++ r)) (hn : n = zs.length) (hm : n ≤ 9223372036854775807) (hok : ∀ x ∈ zs, okI x) : SeenW w (some ⟨g, 0, none⟩) n zs :=
  ⟨hn, hm, hok, fun _ => ⟨g, 0, rfl, blk_lt h, fun k x hx => by
    rw [Nat.zero_add]
    exact h.at (by rw [List.getElem?_append_left (List.getElem?_eq_some_iff.1 hx).1]; exact hx)⟩⟩
theorem SeenW.z {w : World} {a : Option Addr} {n : Nat} {zs : List Int} (h : SeenW w a n zs) (hm : n ≤ 4611686018427387904) : SeenZ w a n zs := ⟨h.len, hm, h.ex⟩
/-- The two answers, the words, and the boxes. -/
structure Sd (w1 wr : World) (lo1 hi lo2 L P1 P2 m : Nat) (xa ya : Option Addr) (xc yc : Nat) (ws : List Int) (ds fs : List Fn) : Prop where
  p : AnsH lo1 hi wr xa m fs
  q : AnsD lo2 wr ya m ds
  l : IsW wr L ws
  b1 : wr.heap[P1]? = some (.cells #[.slice xa m xc] 25 (0, 0))
  b2 : wr.heap[P2]? = some (.cells #[.slice ya m yc] 25 (0, 0))
  keep : Keeps None w1 wr
  o1 : w1.heap.size ≤ lo1
  o2 : hi ≤ lo2
  o3 : L < lo1
theorem Sd.more {w1 wr w' : World} {lo1 hi lo2 L P1 P2 m : Nat} {xa ya : Option Addr} {xc yc : Nat} {ws : List Int} {ds fs : List Fn} (h : Sd w1 wr lo1 hi lo2 L P1 P2 m xa ya xc yc ws ds fs) (hk : Keeps None wr w') : Sd w1 w' lo1 hi lo2 L P1 P2 m xa ya xc yc ws ds fs :=
  ⟨h.p.more hk, h.q.more hk, h.l.kept hk (fun f => f), blk_kept h.b1 hk (fun f => f), blk_kept h.b2 hk (fun f => f), h.keep.trans hk (fun _ f _ => f), h.o1, h.o2, h.o3⟩
/-- One function of the first answer; one of its instructions is written over. -/
theorem Sd.at {w1 wr : World} {lo1 hi lo2 L P1 P2 m : Nat} {xa ya : Option Addr} {xc yc : Nat} {ws : List Int} {ds fs : List Fn} (h : Sd w1 wr lo1 hi lo2 L P1 P2 m xa ya xc yc ws ds fs) {i : Nat} {f : Fn} (hf : fs[i]? = some f) :
    ∃ gb cb, xa = some ⟨gb, 0, none⟩ ∧ wr.cell? ⟨gb, i * 4 + 3, none⟩ = some (.slice (some ⟨cb, 0, none⟩) f.code.length f.code.length) ∧ IsCode wr cb f.code ∧ cb ≠ gb ∧ cb ≠ P1 ∧
      ∀ (w' : World), Keeps None wr w' → ∀ k (x : Ins), k < f.code.length → Sd w1 (set5 w' cb (k * 5) x) lo1 hi lo2 L P1 P2 m xa ya xc yc ws ds (fs.set i { f with code := f.code.set k x }) := by
  obtain ⟨gb, cb, e, h1, h2, h3, h4, h5, _⟩ := h.p.at hf
  have n1 : cb ≠ P1 := blk_ne h2.blk h.b1 (by decide)
  refine ⟨gb, cb, e, h1, h2, h5, n1, fun w' hk k x hx => ?_⟩
  have g := h.more hk
  obtain ⟨gb', cb', e', c2, g2, _, _, _, g6⟩ := g.p.at hf
  have ecb : cb' = cb := by
    have c1 := hk.cell h1 (fun f => f)
    rw [e] at e'
    injection e' with e'
    injection e' with e'
    subst e'
    rw [c1] at c2
    injection c2 with c2
    injection c2 with c2
    injection c2 with c2
    injection c2 with c2
    exact c2.symm
  subst ecb
  have kk := set5_keeps w' cb' (k * 5) x
  refine ⟨g6 k x hx, g.q.kept kk (fun i ei => by have := h.o2; omega), g.l.kept kk (fun ei => by have := h.o3; omega), blk_kept g.b1 kk (fun ei => n1 ei.symm), blk_kept g.b2 kk (fun ei => (blk_ne g2.blk g.b2 (by decide)) ei.symm), g.keep.trans kk (fun i ei hi => by have := h.o1; omega), h.o1, h.o2, h.o3⟩
end Go.Proofs.YtcjmceedkfjbeaaDoor
/-! ProgDecode: the function's code from a region on. -/
namespace Go.Proofs.YtcjmceedkfjbeaaDoor
set_option linter.unusedVariables false
set_option maxRecDepth 20000

def regFirst : Code → Option Nat
  | .region n _ _ => some n
  | .seq a _ => regFirst a
  | _ => none
def tailAt (k : Nat) : Code → Option Code
  | .seq a b => if regFirst a = some k then some (.seq a b) else tailAt k b
  | _ => none
noncomputable def decTail (k : Nat) : Code := (Tryd.f4.body.bind (tailAt k)).getD .skip
end Go.Proofs.YtcjmceedkfjbeaaDoor
