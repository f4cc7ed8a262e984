import Derived.Test.YtncbejpefokhhaaCpRefPlay2
/-! Play: what is handed out is new memory. -/
namespace Go.Proofs.Ytncbejpefokhhaa
set_option linter.unusedVariables false
open Go.RowKit Go.HeapKit

def PlayedN (B : Nat) (w' : World) (v : Value) (len : Nat) (A : Ar) (f : Nat → Eff) : Prop :=
  ∃ gE gC gL E, v = .agg #[.slice (some ⟨gE, 0, none⟩) len len, .slice (some ⟨gC, 0, none⟩) A.cells.length A.cells.length, .slice (some ⟨gL, 0, none⟩) A.log.length A.log.length] ∧ (B ≤ gE ∧ B ≤ gC ∧ B ≤ gL) ∧
    w'.heap[gE]? = some (.cells E 41 (0, 0)) ∧ Effs E len len f ∧ w'.heap[gC]? = some (.cells (A.cells.map (Value.int .i64)).toArray 2 (0, 0)) ∧ w'.heap[gL]? = some (.cells (logVals A.log).toArray 65 (0, 0))

set_option maxHeartbeats 4000000 in
set_option maxRecDepth 100000 in
theorem play_new (n : Nat) (hn : n ≤ 1048576) (ao : Option Addr) (len cap : Nat) (M : Nat → Nat → Int) (w : World) (hlen : len ≤ 4096) (hM : Fives w ao len M) :
    Calls Try.prog 6 #[.int .i64 n, .slice ao len cap] w fun e w' => ∃ v, e = .returned (.tuple #[v, .int .i64 0]) ∧ PlayedN w.heap.size w' v len (stAt (Ar.watched n) M len) (effAt (Ar.watched n) M) ∧ Below w.heap.size w w' := by
  have HM : Hid (Fives w ao len M) := hM
  have hnew := own_new n (w.alloc (.cells #[.slice none 0 0, .slice none 0 0, .slice none 0 0] 27)) hn
  simp only [World.size_alloc] at hnew
  clear hM
  go_enter Try.func6, Try.ntmps6
  go_wp2_with fail
  refine hnew.mono ?_
  rintro e w1 ⟨rfl, hO1, hb1⟩
  have hr1 := (hb1.block w.heap.size (Nat.lt_succ_self _)).trans (new_at w _ _ rfl)
  have HB1 : Hid (Below w.heap.size w w1) := ((Below.refl w.heap.size w).alloc (Nat.le_refl _) _).trans (hb1.mono (Nat.le_succ _))
  obtain ⟨vc, vl, hA1, hp, hvc, hvl⟩ := hO1.ex
  clear hnew hb1
  go_wp2_with fail
  refine (watch_any (w.heap.size + 1) vc vl _ true w1 hA1).mono ?_
  rintro e w2 ⟨rfl, hA2, hk2⟩
  have hO2 : Owned (w.heap.size + 1) w2 (w.heap.size + 1) (Ar.watched n) := ⟨vc, vl, hA2, hp, hvc, hvl⟩
  have hr2 := ar_keep hA1 hk2 hr1 (by decide) (by decide) (by decide)
  have hb2 : Below (w.heap.size + 1) w1 w2 := hk2.below _ hO1.size (by rintro k (rfl | e | e); exact hp; exact hvc k e; exact hvl k e)
  obtain ⟨i0, hi, hz0, hz1, hz2⟩ := info_parts Try.infoEff
  obtain ⟨E0, -, hE0, hmk⟩ := run_make_block (P := Try.prog) (w := w2) 23 41 i0 _ 3 24 Try.underlying23 hi hz0 hz1 hz2 len (by omega) (by omega)
  have hO3 := (hO2.below (B' := 0) (Keeps.alloc None w2 (.cells E0 41))).1
  have hlt2 := hO2.lt
  have HS : Hid (Owned (w.heap.size + 1) (w2.alloc (.cells E0 41)) (w.heap.size + 1) (Ar.watched n) ∧ Below w.heap.size w (w2.alloc (.cells E0 41)) ∧ (w2.alloc (.cells E0 41)).heap[w.heap.size]? = some (.cells #[.slice none 0 0, .slice none 0 0, .slice none 0 0] 27 (0, 0)) ∧
      (w2.alloc (.cells E0 41)).heap[w2.heap.size]? = some (.cells E0 41 (0, 0)) ∧ E0.size = len * 3) :=
    ⟨hO3, ((HB1.out.trans (hb2.mono (Nat.le_succ _))).trans ((Below.refl _ _).alloc (by omega) _)), (Below.heap_alloc _ _ _ (by omega)).trans hr2, new_at _ _ _ rfl, hE0⟩
  clear hA1 hA2 hk2 hO1 hO2 hO3 hr1 hr2 hb2 HB1 hp hvc hvl hi hz0 hz1 hz2 i0 hE0
  go_wp2_with fail
  obtain ⟨gE, hgE, hgE2⟩ : ∃ gE, gE = w2.heap.size ∧ w.heap.size + 1 < gE := ⟨_, rfl, hlt2⟩
  go_loopw [31, 9, 10] (fun i _ _ wr => ∃ k : Nat, k ≤ len ∧ i = .int .i64 k ∧ Owned (w.heap.size + 1) wr (w.heap.size + 1) (stAt (Ar.watched n) M k) ∧ Below w.heap.size w wr ∧ wr.heap[w.heap.size]? = some (.cells #[.slice none 0 0, .slice none 0 0, .slice none 0 0] 27 (0, 0)) ∧
      ∃ E, wr.heap[w2.heap.size]? = some (.cells E 41 (0, 0)) ∧ Effs E len k (effAt (Ar.watched n) M)) (fun i _ _ _ => len - (intOf i).toNat)
  case atStart => exact ⟨0, Nat.zero_le _, rfl, HS.out.1, HS.out.2.1, HS.out.2.2.1, E0, HS.out.2.2.2.1, HS.out.2.2.2.2, fun _ h => by omega⟩
  case round =>
    clear HS
    obtain ⟨k, hk, rfl, hO, hb, hr, E, hE, hEf⟩ := hrel
    have hlog := stAt_log (Ar.watched n) M k
    rw [show (Ar.watched n).log.length = 0 from rfl] at hlog
    have HR : Hid (Owned (w.heap.size + 1) wr (w.heap.size + 1) (stAt (Ar.watched n) M k) ∧ Below w.heap.size w wr ∧ wr.heap[w.heap.size]? = some (.cells #[.slice none 0 0, .slice none 0 0, .slice none 0 0] 27 (0, 0)) ∧
      wr.heap[w2.heap.size]? = some (.cells E 41 (0, 0)) ∧ Effs E len k (effAt (Ar.watched n) M)) := ⟨hO, hb, hr, hE, hEf⟩
    clear hO hb hr hE hEf
    by_cases hkn : k < len
    · obtain ⟨b0, off, rfl, hb0, hcell⟩ := HM.out (by omega)
      have m0 := (HR.out.2.1.cell (p := ⟨b0, off + k * 5, none⟩) hb0).trans (hcell k hkn).1
      have m1 := (HR.out.2.1.cell (p := ⟨b0, off + k * 5 + 1, none⟩) hb0).trans (hcell k hkn).2.1
      have m2 := (HR.out.2.1.cell (p := ⟨b0, off + k * 5 + 2, none⟩) hb0).trans (hcell k hkn).2.2.1
      have m3 := (HR.out.2.1.cell (p := ⟨b0, off + k * 5 + 3, none⟩) hb0).trans (hcell k hkn).2.2.2.1
      have m4 := (HR.out.2.1.cell (p := ⟨b0, off + k * 5 + 4, none⟩) hb0).trans (hcell k hkn).2.2.2.2
      have i1 : (k : Int) < (len : Int) := by omega
      have HE : Hid (effAt (Ar.watched n) M k = ((stAt (Ar.watched n) M k).turn (M k 0) (M k 1) (M k 2) (M k 3) (M k 4)).1 ∧ stAt (Ar.watched n) M (k + 1) = ((stAt (Ar.watched n) M k).turn (M k 0) (M k 1) (M k 2) (M k 3) (M k 4)).2) := ⟨rfl, rfl⟩
      clear hcell
      generalize M k 0 = u at m0 HE
      generalize M k 1 = kind at m1 HE
      generalize M k 2 = x at m2 HE
      generalize M k 3 = a at m3 HE
      generalize M k 4 = b at m4 HE
      obtain ⟨vc, vl, hA, hp, hvc, hvl⟩ := HR.out.1.ex
      have hA4 := hA.alloc (.cells #[.int .i64 u, .int .i64 kind, .int .i64 x, .int .i64 a, .int .i64 b] 53)
      have hbox := new_at wr (.cells #[.int .i64 u, .int .i64 kind, .int .i64 x, .int .i64 a, .int .i64 b] 53) _ rfl
      go_wp2_with fail
      refine (who_any (w.heap.size + 1) vc vl _ u _ hA4).mono ?_
      rintro e w5 ⟨rfl, hA5, hk5⟩
      have hbox5 := ar_keep hA4 hk5 hbox (by decide) (by decide) (by decide)
      have hr5 := ar_keep hA4 hk5 ((Below.heap_alloc _ _ _ (Array.getElem?_eq_some_iff.1 HR.out.2.2.1).1).trans HR.out.2.2.1) (by decide) (by decide) (by decide)
      have hE5 := ar_keep hA4 hk5 ((Below.heap_alloc _ _ _ (Array.getElem?_eq_some_iff.1 HR.out.2.2.2.1).1).trans HR.out.2.2.2.1) (by decide) (by decide) (by decide)
      have x0 := (cell_of_block hbox5 0).trans rfl
      have x1 := (cell_of_block hbox5 1).trans rfl
      have x2 := (cell_of_block hbox5 2).trans rfl
      have x3 := (cell_of_block hbox5 3).trans rfl
      have x4 := (cell_of_block hbox5 4).trans rfl
      have hc := do_arena (w.heap.size + 1) vc vl _ u kind x a b w5 hA5 (by show (stAt (Ar.watched n) M k).log.length < _; omega)
      have HT : Hid ((stAt (Ar.watched n) M k).turn u kind x a b = ({ stAt (Ar.watched n) M k with actor := u } : Ar).acted kind x a b) := rfl
      generalize hD : ({ stAt (Ar.watched n) M k with actor := u } : Ar).acted kind x a b = D at hc HT
      obtain ⟨⟨v, ok, err⟩, B⟩ := D
      simp only [Eff.value] at hc
      have HD : Hid (effAt (Ar.watched n) M k = ⟨v, ok, err⟩ ∧ stAt (Ar.watched n) M (k + 1) = B) := by rw [HT.out] at HE; exact HE.out
      clear hD HE HT m0 m1 m2 m3 m4
      go_wp2_with fail
      refine hc.mono ?_
      rintro e w6 ⟨rfl, hAf⟩
      obtain ⟨hO6, hb6⟩ := Owned.of hAf (by have := hA5.lt; omega) hp hvc hvl
      have hk6 := hAf.choose_spec.choose_spec.2.1
      have hr6 := ar_keep hA5 hk6 hr5 (by decide) (by decide) (by decide)
      have hE6 := ar_keep hA5 hk6 hE5 (by decide) (by decide) (by decide)
      have hb5 : Below (w.heap.size + 1) wr w5 := ((Below.refl _ _).alloc HR.out.1.size _).trans (hk5.below _ (by have := HR.out.1.size; simp; omega) (by rintro k (rfl | e | e); exact hp; exact hvc k e; exact hvl k e))
      have hEs := HR.out.2.2.2.2.1
      obtain ⟨z0, hz0⟩ : ∃ z, E[k * 3]? = some z := ⟨E[k * 3]'(by omega), by simp [show k * 3 < E.size by omega]⟩
      obtain ⟨z1, hz1⟩ : ∃ z, E[k * 3 + 1]? = some z := ⟨E[k * 3 + 1]'(by omega), by simp [show k * 3 + 1 < E.size by omega]⟩
      obtain ⟨z2, hz2⟩ : ∃ z, E[k * 3 + 2]? = some z := ⟨E[k * 3 + 2]'(by omega), by simp [show k * 3 + 2 < E.size by omega]⟩
      have y0 := (cell_of_block hE6 (k * 3)).trans hz0
      have y1 := (cell_of_block hE6 (k * 3 + 1)).trans hz1
      have y2 := (cell_of_block hE6 (k * 3 + 2)).trans hz2
      have f0 := free_of_block hE6 (k * 3)
      have f1 := free_of_block hE6 (k * 3 + 1)
      have f2 := free_of_block hE6 (k * 3 + 2)
      have hk7 : Keeps (· = w2.heap.size) w6 (((w6.setCell ⟨w2.heap.size, k * 3, none⟩ (.int .i64 v)).setCell ⟨w2.heap.size, k * 3 + 1, none⟩ (.bool ok)).setCell ⟨w2.heap.size, k * 3 + 2, none⟩ (.int .i64 err)) :=
        ((Keeps.setCell (S := (· = w2.heap.size)) w6 (a := ⟨w2.heap.size, k * 3, none⟩) rfl _).andSet (x := ⟨w2.heap.size, k * 3 + 1, none⟩) (.inl rfl) _).andSet (x := ⟨w2.heap.size, k * 3 + 2, none⟩) (.inl rfl) _
      have HF : Hid (Owned (w.heap.size + 1) (((w6.setCell ⟨w2.heap.size, k * 3, none⟩ (.int .i64 v)).setCell ⟨w2.heap.size, k * 3 + 1, none⟩ (.bool ok)).setCell ⟨w2.heap.size, k * 3 + 2, none⟩ (.int .i64 err)) (w.heap.size + 1) (stAt (Ar.watched n) M (k + 1)) ∧ Below w.heap.size w (((w6.setCell ⟨w2.heap.size, k * 3, none⟩ (.int .i64 v)).setCell ⟨w2.heap.size, k * 3 + 1, none⟩ (.bool ok)).setCell ⟨w2.heap.size, k * 3 + 2, none⟩ (.int .i64 err)) ∧
          (((w6.setCell ⟨w2.heap.size, k * 3, none⟩ (.int .i64 v)).setCell ⟨w2.heap.size, k * 3 + 1, none⟩ (.bool ok)).setCell ⟨w2.heap.size, k * 3 + 2, none⟩ (.int .i64 err)).heap[w.heap.size]? = some (.cells #[.slice none 0 0, .slice none 0 0, .slice none 0 0] 27 (0, 0)) ∧
          ∃ E, (((w6.setCell ⟨w2.heap.size, k * 3, none⟩ (.int .i64 v)).setCell ⟨w2.heap.size, k * 3 + 1, none⟩ (.bool ok)).setCell ⟨w2.heap.size, k * 3 + 2, none⟩ (.int .i64 err)).heap[w2.heap.size]? = some (.cells E 41 (0, 0)) ∧ Effs E len (k + 1) (effAt (Ar.watched n) M)) := by
        refine ⟨by rw [HD.out.2]; exact hO6.beside hE6 (by decide) (by decide) (by decide) hk7, ((HR.out.2.1.trans (hb5.mono (Nat.le_succ _))).trans (hb6.mono (Nat.le_succ _))).trans (hk7.below _ (by have := hO6.size; omega) (fun i e => by omega)), (hk7.block _ (by have := hO6.lt; omega) (by omega)).trans hr6, _, setCell_block (setCell_block (setCell_block hE6 _) _) _, ?_⟩
        have := HR.out.2.2.2.2.put hkn
        rw [HD.out.1] at this
        exact this
      clear hc hAf hO6 hb6 hk6 hr6 hE6 hb5 hEs hk7 hbox hbox5 hr5 hE5 x0 x1 x2 x3 x4 hA hA4 hA5 hk5 hp hvc hvl hz0 hz1 hz2 HR
      go_wp2
      go_roundw
      case rel => exact ⟨k + 1, by omega, by go_num, HF.out⟩
      case measure => simp [intOf]; omega
    · obtain rfl : k = len := by omega
      obtain ⟨vc, vl, hA, hp, hvc, hvl⟩ := HR.out.1.ex
      have hcc := cells_any (w.heap.size + 1) vc vl _ wr hA
      go_wp2_with fail
      refine hcc.mono ?_
      rintro e w5 ⟨rfl, hC5, hk5⟩
      have hA5 := hA.kept hk5 (fun _ _ f => f)
      have hcl := log_any (w.heap.size + 1) vc vl _ w5 hA5 (by omega)
      go_wp2_with fail
      refine hcl.mono ?_
      rintro e w6 ⟨rfl, hL6, hk6⟩
      have keep : ∀ {g o}, wr.heap[g]? = some o → w6.heap[g]? = some o := fun {g o} h => ((hk6.block g (Nat.lt_of_lt_of_le (Array.getElem?_eq_some_iff.1 h).1 hk5.size) (fun f => f)).trans (hk5.block g (Array.getElem?_eq_some_iff.1 h).1 (fun f => f))).trans h
      have hr6 := keep HR.out.2.2.1
      have hE6 := keep HR.out.2.2.2.1
      have hC6 := (hk6.block wr.heap.size (Array.getElem?_eq_some_iff.1 hC5).1 (fun f => f)).trans hC5
      have hlr := HR.out.1.lt
      have hs5 := hk5.size
      have r0 := (cell_of_block hr6 0).trans rfl
      have r1 := (cell_of_block hr6 1).trans rfl
      have r2 := (cell_of_block hr6 2).trans rfl
      have q0 := free_of_block hr6 0
      have q1 := free_of_block hr6 1
      have q2 := free_of_block hr6 2
      have HL : Hid (w6.heap[w5.heap.size]? = some (.cells (logVals (stAt (Ar.watched n) M k).log).toArray 65 (0, 0)) ∧ w6.heap[wr.heap.size]? = some (.cells ((stAt (Ar.watched n) M k).cells.map (Value.int .i64)).toArray 2 (0, 0)) ∧ w6.heap[w2.heap.size]? = some (.cells E 41 (0, 0)) ∧ Below w.heap.size w w6) :=
        ⟨hL6, hC6, hE6, (HR.out.2.1.trans (hk5.below _ (by omega) (fun _ f => f.elim))).trans (hk6.below _ (by omega) (fun _ f => f.elim))⟩
      have HEf : Hid (Effs E k k (effAt (Ar.watched n) M)) := HR.out.2.2.2.2
      have hw6 := (Array.getElem?_eq_some_iff.1 hL6).1
      clear hcl hcc hC5 hC6 hL6 hE6 hk5 hk6 hA5 hA hp hvc hvl HR
      go_wp2
      refine run_end rfl rfl hr6 rfl rfl _ _ _ (fun w' hk7 => ⟨_, rfl, ⟨w2.heap.size, wr.heap.size, w5.heap.size, E, rfl, ⟨by omega, by omega, by omega⟩, ?_, HEf.out, ?_, ?_⟩, ?_⟩)
      · exact (hk7.block _ (Array.getElem?_eq_some_iff.1 HL.out.2.2.1).1 (by omega)).trans HL.out.2.2.1
      · exact (hk7.block _ (by omega) (by omega)).trans HL.out.2.1
      · exact (hk7.block _ (by omega) (by omega)).trans HL.out.1
      · exact HL.out.2.2.2.trans (hk7.below _ (by omega) (fun i e => by omega))
end Go.Proofs.Ytncbejpefokhhaa
