import Derived.Test.YtncbejpefokhhaaPlayWalks
import Derived.Deep.QuietTactic
import Derived.Deep.RegionHeld3
import Derived.BigQuiet
/-! Lists of acts of the statement's own. -/
namespace Go.Proofs.Ytncbejpefokhhaa
set_option linter.unusedVariables false
open Go.RowKit Go.HeapKit

/-- The act number i in a block. -/
structure A5 (L : Array Value) (i : Nat) (a b c d e : Int) : Prop where
  c0 : L[i * 5]? = some (.int .i64 a)
  c1 : L[i * 5 + 1]? = some (.int .i64 b)
  c2 : L[i * 5 + 2]? = some (.int .i64 c)
  c3 : L[i * 5 + 3]? = some (.int .i64 d)
  c4 : L[i * 5 + 4]? = some (.int .i64 e)
def put5 (L : Array Value) (i : Nat) (a b c d e : Int) : Array Value := ((((L.setIfInBounds (i * 5) (.int .i64 a)).setIfInBounds (i * 5 + 1) (.int .i64 b)).setIfInBounds (i * 5 + 2) (.int .i64 c)).setIfInBounds (i * 5 + 3) (.int .i64 d)).setIfInBounds (i * 5 + 4) (.int .i64 e)
theorem put5_size (L : Array Value) (i : Nat) (a b c d e : Int) : (put5 L i a b c d e).size = L.size := by simp [put5]
theorem put5_same {L : Array Value} {i : Nat} (h : i * 5 + 4 < L.size) (a b c d e : Int) : A5 (put5 L i a b c d e) i a b c d e := by
  unfold put5
  refine ⟨?_, ?_, ?_, ?_, ?_⟩ <;> simp only [Array.getElem?_setIfInBounds, Array.size_setIfInBounds] <;> (repeat rw [if_neg (by omega)]) <;> rw [if_pos trivial, if_pos (by omega)]
theorem A5.put {L : Array Value} {i j : Nat} {a b c d e : Int} (h : A5 L i a b c d e) (hne : i ≠ j) (a' b' c' d' e' : Int) : A5 (put5 L j a' b' c' d' e') i a b c d e := by
  obtain ⟨h0, h1, h2, h3, h4⟩ := h
  unfold put5
  refine ⟨?_, ?_, ?_, ?_, ?_⟩ <;> simp only [Array.getElem?_setIfInBounds] <;> (repeat rw [if_neg (by omega)]) <;> assumption
def set5 (w : World) (g i : Nat) (a b c d e : Int) : World := ((((w.setCell ⟨g, i * 5, none⟩ (.int .i64 a)).setCell ⟨g, i * 5 + 1, none⟩ (.int .i64 b)).setCell ⟨g, i * 5 + 2, none⟩ (.int .i64 c)).setCell ⟨g, i * 5 + 3, none⟩ (.int .i64 d)).setCell ⟨g, i * 5 + 4, none⟩ (.int .i64 e)
theorem set5_blk {w : World} {g i : Nat} {L : Array Value} {t : TypeId} {fz : Nat × Nat} (h : w.heap[g]? = some (.cells L t fz)) (a b c d e : Int) : (set5 w g i a b c d e).heap[g]? = some (.cells (put5 L i a b c d e) t fz) :=
  setCell_block (setCell_block (setCell_block (setCell_block (setCell_block h _) _) _) _) _
theorem set5_keeps (w : World) (g i : Nat) (a b c d e : Int) : Keeps (· = g) w (set5 w g i a b c d e) :=
  ((((Keeps.setCell (S := (· = g)) w (a := ⟨g, i * 5, none⟩) rfl _).andSet (x := ⟨g, i * 5 + 1, none⟩) (.inl rfl) _).andSet (x := ⟨g, i * 5 + 2, none⟩) (.inl rfl) _).andSet (x := ⟨g, i * 5 + 3, none⟩) (.inl rfl) _).andSet (x := ⟨g, i * 5 + 4, none⟩) (.inl rfl) _
/-- The first k acts of a list of n, with room for two marks behind. -/
structure Laid (w : World) (g n k : Nat) (M : Nat → Nat → Int) (L : Array Value) : Prop where
  blk : w.heap[g]? = some (.cells L 53 (0, 0))
  size : L.size = (n + 2) * 5
  acts : ∀ i, i < k → A5 L i (M i 0) (M i 1) (M i 2) (M i 3) (M i 4)
def Marks (L : Array Value) (n : Nat) : Prop := A5 L n (-7) 77 (-9) 5 6 ∧ A5 L (n + 1) (-8) 78 (-9) 5 6
theorem Laid.put {w : World} {g n k : Nat} {M : Nat → Nat → Int} {L : Array Value} (h : Laid w g n k M L) (hk : k < n) : Laid (set5 w g k (M k 0) (M k 1) (M k 2) (M k 3) (M k 4)) g n (k + 1) M (put5 L k (M k 0) (M k 1) (M k 2) (M k 3) (M k 4)) := by
  refine ⟨set5_blk h.blk _ _ _ _ _, by rw [put5_size]; exact h.size, fun i hi => ?_⟩
  by_cases hik : i = k
  · subst hik
    exact put5_same (by have := h.size; omega) _ _ _ _ _
  · exact (h.acts i (by omega)).put hik _ _ _ _ _
theorem Laid.kept {w w' : World} {g n k : Nat} {M : Nat → Nat → Int} {L : Array Value} {S : Nat → Prop} (h : Laid w g n k M L) (hk : Keeps S w w') (hS : ¬ S g) : Laid w' g n k M L :=
  ⟨(hk.block g (Array.getElem?_eq_some_iff.1 h.blk).1 hS).trans h.blk, h.size, h.acts⟩
theorem Laid.lt {w : World} {g n k : Nat} {M : Nat → Nat → Int} {L : Array Value} (h : Laid w g n k M L) : g < w.heap.size := (Array.getElem?_eq_some_iff.1 h.blk).1
theorem Laid.fives {w : World} {g n : Nat} {M : Nat → Nat → Int} {L : Array Value} (h : Laid w g n n M L) : Fives w (some ⟨g, 0, none⟩) n M := by
  intro h0
  refine ⟨g, 0, rfl, h.lt, fun i hi => ?_⟩
  obtain ⟨h0, h1, h2, h3, h4⟩ := h.acts i hi
  simp only [Nat.zero_add]
  exact ⟨(cell_of_block h.blk _).trans h0, (cell_of_block h.blk _).trans h1, (cell_of_block h.blk _).trans h2, (cell_of_block h.blk _).trans h3, (cell_of_block h.blk _).trans h4⟩
/-- The cells of an act can be written. -/
theorem Laid.cells {w : World} {g n k : Nat} {M : Nat → Nat → Int} {L : Array Value} (h : Laid w g n k M L) {i : Nat} (hi : i < n + 2) :
    (∃ v0 v1 v2 v3 v4, w.cell? ⟨g, i * 5, none⟩ = some v0 ∧ w.cell? ⟨g, i * 5 + 1, none⟩ = some v1 ∧ w.cell? ⟨g, i * 5 + 2, none⟩ = some v2 ∧ w.cell? ⟨g, i * 5 + 3, none⟩ = some v3 ∧ w.cell? ⟨g, i * 5 + 4, none⟩ = some v4) ∧ ∀ j, w.frozen? ⟨g, j, none⟩ = false := by
  have hs := h.size
  refine ⟨⟨_, _, _, _, _, (cell_of_block h.blk _).trans (Array.getElem?_eq_getElem (by omega)), (cell_of_block h.blk _).trans (Array.getElem?_eq_getElem (by omega)), (cell_of_block h.blk _).trans (Array.getElem?_eq_getElem (by omega)), (cell_of_block h.blk _).trans (Array.getElem?_eq_getElem (by omega)), (cell_of_block h.blk _).trans (Array.getElem?_eq_getElem (by omega))⟩, fun j => free_of_block h.blk j⟩
theorem Fives.kept {w w' : World} {ao : Option Addr} {n : Nat} {M : Nat → Nat → Int} {S : Nat → Prop} (h : Fives w ao n M) (hk : Keeps S w w') (hS : 0 < n → ∀ b off, ao = some ⟨b, off, none⟩ → b < w.heap.size → ¬ S b) : Fives w' ao n M := by
  intro h0
  obtain ⟨b, off, rfl, hb, hc⟩ := h h0
  have hn := hS h0 b off rfl hb
  exact ⟨b, off, rfl, Nat.lt_of_lt_of_le hb hk.size, fun i hi => ⟨hk.cell (hc i hi).1 hn, hk.cell (hc i hi).2.1 hn, hk.cell (hc i hi).2.2.1 hn, hk.cell (hc i hi).2.2.2.1 hn, hk.cell (hc i hi).2.2.2.2 hn⟩⟩
theorem Fives.below {w w' : World} {ao : Option Addr} {n : Nat} {M : Nat → Nat → Int} {B : Nat} (h : Fives w ao n M) (hb : Below B w w') (hB : 0 < n → ∀ b off, ao = some ⟨b, off, none⟩ → b < w.heap.size → b < B) : Fives w' ao n M := by
  intro h0
  obtain ⟨b, off, rfl, hlt, hc⟩ := h h0
  have hn := hB h0 b off rfl hlt
  have hh : ∀ o, w'.cell? ⟨b, o, none⟩ = w.cell? ⟨b, o, none⟩ := fun o => hb.cell (p := ⟨b, o, none⟩) hn
  exact ⟨b, off, rfl, Nat.lt_of_lt_of_le hlt hb.size, fun i hi => by simp only [hh]; exact hc i hi⟩
theorem Try.infoAct : (Try.prog.info? 53).map (fun i => (i.zero, i.size, i.bytes)) = some (some (.agg #[.int .i64 0, .int .i64 0, .int .i64 0, .int .i64 0, .int .i64 0]), 5, 40) := by kernel_rfl

theorem results_cellA {P : Program} {fn : Func} {q : Tmp} {ty : TypeId} (h : fn.results = #[.cell q ty]) {tmps : Array Value} {w : World} {g : Nat} (ha : tmps.getD q undef = .pointer (some ⟨g, 0, none⟩)) {v : Value}
    (hl : (loadVar ty ⟨g, 0, none⟩).run P w = .ok v w) : (results fn tmps).run P w = .ok v w := by
  have ha' : tmps[q]?.getD undef = .pointer (some ⟨g, 0, none⟩) := by simpa using ha
  simp [results, h, ha', asAddr, hl]
theorem mark0_ok (w : World) : ∃ we, Calls Try.prog 19 #[.int .i64 0] w (fun e w' => e = .returned (.agg #[.int .i64 (-7), .int .i64 77, .int .i64 (-9), .int .i64 5, .int .i64 6]) ∧ w' = we) ∧ Keeps None w we := by
  refine ⟨w.alloc (.cells #[.int .i64 (-7), .int .i64 77, .int .i64 (-9), .int .i64 5, .int .i64 6] 53), ?_, Keeps.alloc None w _⟩
  go_enter Try.func19, Try.ntmps19
  go_wp2
  refine bodyPost_ret (results_cellA (q := 2) (ty := 53) rfl rfl (run_loadVar_row _ w.heap.size 53 53 _ _ _ (new_at _ _ _ rfl) Try.underlying53 rfl (by kernel_rfl))) rfl ?_
  exact ⟨rfl, rfl⟩
theorem mark1_ok (w : World) : ∃ we, Calls Try.prog 19 #[.int .i64 1] w (fun e w' => e = .returned (.agg #[.int .i64 (-8), .int .i64 78, .int .i64 (-9), .int .i64 5, .int .i64 6]) ∧ w' = we) ∧ Keeps None w we := by
  refine ⟨w.alloc (.cells #[.int .i64 (-8), .int .i64 78, .int .i64 (-9), .int .i64 5, .int .i64 6] 53), ?_, Keeps.alloc None w _⟩
  go_enter Try.func19, Try.ntmps19
  go_wp2
  refine bodyPost_ret (results_cellA (q := 2) (ty := 53) rfl rfl (run_loadVar_row _ w.heap.size 53 53 _ _ _ (new_at _ _ _ rfl) Try.underlying53 rfl (by kernel_rfl))) rfl ?_
  exact ⟨rfl, rfl⟩

set_option maxHeartbeats 4000000 in
theorem handed_ok (ao : Option Addr) (n c : Nat) (M : Nat → Nat → Int) (w : World) (hM : Fives w ao n M) (hn : n * 40 ≤ 140737488351232) :
    Calls Try.prog 5 #[.slice ao n c] w fun e w' => ∃ g L, e = .returned (.slice (some ⟨g, 0, none⟩) (n + 2) (n + 2)) ∧ Laid w' g n n M L ∧ Marks L n ∧ w.heap.size ≤ g ∧ Keeps None w w' := by
  have HM : Hid (Fives w ao n M) := hM
  obtain ⟨i0, hi, hz0, hz1, hz2⟩ := info_parts Try.infoAct
  obtain ⟨L0, -, hL0, hmk⟩ := run_make_block (P := Try.prog) (w := w) 22 53 i0 _ 5 40 Try.underlying22 hi hz0 hz1 hz2 (n + 2) (by omega) (by omega)
  have hmk2 : (Instr.makeSlice 22 (.int .i64 ((n : Int) + 2)) (.int .i64 ((n : Int) + 2))).run Try.prog w = .ok (.slice (some ⟨w.heap.size, 0, none⟩) (n + 2) (n + 2)) (w.alloc (.cells L0 53)) := hmk
  obtain ⟨g, hg⟩ : ∃ g, g = w.heap.size := ⟨_, rfl⟩
  have HG : Hid (g = w.heap.size ∧ L0.size = (n + 2) * 5) := ⟨hg, hL0⟩
  rw [← hg] at hmk2
  clear hM hi hz0 hz1 hz2 hmk hL0 hg
  go_enter Try.func5, Try.ntmps5
  go_wp2_with (first | (at_make; refine wpList_make_run rfl (.tmp 7) (.tmp 7) 22 rfl rfl rfl hmk2 ?_) | fail)
  go_loopw [4] (fun i wr => ∃ k : Nat, k ≤ n ∧ i = .int .i64 k ∧ (∃ L, Laid wr g n k M L) ∧ Keeps None w wr) (fun i _ => n - (intOf i).toNat)
  case atStart => exact ⟨0, Nat.zero_le _, rfl, ⟨L0, new_at _ _ _ HG.out.1.symm, HG.out.2, fun i h => by omega⟩, Keeps.alloc None w _⟩
  case round =>
    clear hmk2
    obtain ⟨k, hk, rfl, ⟨L, hL⟩, hkp⟩ := hrel
    by_cases hkn : k < n
    · obtain ⟨b, off, rfl, hb, hc⟩ := (HM.out.kept hkp (fun _ _ _ _ _ f => f)) (by omega)
      obtain ⟨m0, m1, m2, m3, m4⟩ := hc k hkn
      obtain ⟨⟨v0, v1, v2, v3, v4, z0, z1, z2, z3, z4⟩, hf⟩ := hL.cells (i := k) (by omega)
      have f0 := hf (k * 5)
      have f1 := hf (k * 5 + 1)
      have f2 := hf (k * 5 + 2)
      have f3 := hf (k * 5 + 3)
      have f4 := hf (k * 5 + 4)
      have i1 : (k : Int) < (n : Int) := by omega
      have HN : Hid ((∃ L, Laid (set5 wr g k (M k 0) (M k 1) (M k 2) (M k 3) (M k 4)) g n (k + 1) M L) ∧ Keeps None w (set5 wr g k (M k 0) (M k 1) (M k 2) (M k 3) (M k 4))) := ⟨⟨_, hL.put hkn⟩, hkp.trans (set5_keeps _ _ _ _ _ _ _ _) (fun i e hi => by have := HG.out.1; omega)⟩
      clear hc hL hkp hf HM
      go_wp2
      go_roundw
      case rel => exact ⟨k + 1, by omega, by go_num, HN.out⟩
      case measure => simp [intOf]; omega
    · have hkn2 : k = n := by omega
      subst hkn2
      obtain ⟨wa, ha, ka⟩ := mark0_ok wr
      have hLa := hL.kept ka (fun f => f)
      obtain ⟨⟨v0, v1, v2, v3, v4, z0, z1, z2, z3, z4⟩, hf⟩ := hLa.cells (i := k) (by omega)
      have f0 := hf (k * 5)
      have f1 := hf (k * 5 + 1)
      have f2 := hf (k * 5 + 2)
      have f3 := hf (k * 5 + 3)
      have f4 := hf (k * 5 + 4)
      have hLb : Laid (set5 wa g k (-7) 77 (-9) 5 6) g k k M (put5 L k (-7) 77 (-9) 5 6) := ⟨set5_blk hLa.blk _ _ _ _ _, by rw [put5_size]; exact hLa.size, fun i hi => (hLa.acts i hi).put (by omega) _ _ _ _ _⟩
      obtain ⟨wb, hb, kb⟩ := mark1_ok (set5 wa g k (-7) 77 (-9) 5 6)
      have hLc := hLb.kept kb (fun f => f)
      obtain ⟨⟨u0, u1, u2, u3, u4, y0, y1, y2, y3, y4⟩, hf2⟩ := hLc.cells (i := k + 1) (by omega)
      have e0 := hf2 ((k + 1) * 5)
      have e1 := hf2 ((k + 1) * 5 + 1)
      have e2 := hf2 ((k + 1) * 5 + 2)
      have e3 := hf2 ((k + 1) * 5 + 3)
      have e4 := hf2 ((k + 1) * 5 + 4)
      have HN : Hid (∃ L, Laid (set5 wb g (k + 1) (-8) 78 (-9) 5 6) g k k M L ∧ Marks L k ∧ w.heap.size ≤ g ∧ Keeps None w (set5 wb g (k + 1) (-8) 78 (-9) 5 6)) := by
        have hs := hL.size
        refine ⟨_, ⟨set5_blk hLc.blk _ _ _ _ _, by rw [put5_size]; exact hLc.size, fun i hi => (hLc.acts i hi).put (by omega) _ _ _ _ _⟩, ⟨(put5_same (by omega) _ _ _ _ _).put (by omega) _ _ _ _ _, put5_same (by rw [put5_size]; omega) _ _ _ _ _⟩, by have := HG.out.1; omega, ?_⟩
        exact (((hkp.trans ka (fun _ f _ => f)).trans (set5_keeps _ _ _ _ _ _ _ _) (fun i e hi => by have := HG.out.1; omega)).trans kb (fun _ f _ => f)).trans (set5_keeps _ _ _ _ _ _ _ _) (fun i e hi => by have := HG.out.1; omega)
      unfold set5 at hb HN
      clear hL hLa hLb hLc hf hf2 ka kb hkp HM
      go_wp2_with fail
      refine ha.mono ?_
      rintro e w' ⟨rfl, hw⟩
      have hw2 := hw.symm
      subst hw2
      clear hw ha
      go_wp2_with fail
      refine hb.mono ?_
      rintro e w' ⟨rfl, hw⟩
      have hw2 := hw.symm
      subst hw2
      clear hw hb
      go_wp2_with fail
      go_ret
      obtain ⟨L', h1, h2, h3, h4⟩ := HN.out
      exact ⟨g, L', rfl, h1, h2, h3, h4⟩
end Go.Proofs.Ytncbejpefokhhaa
