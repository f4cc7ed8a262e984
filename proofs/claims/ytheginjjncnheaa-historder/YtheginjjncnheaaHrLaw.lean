import Derived.Test.YtheginjjncnheaaHrHas
import Derived.Test.YtheginjjncnheaaHoPath
import Derived.Test.YtheginjjncnheaaHoOrder
import Derived.Test.YtheginjjncnheaaHiLegalWalk
/-! The walk of HistOrder. -/
namespace Go.Proofs.Ytheginjjncnheaa
set_option linter.unusedVariables false
set_option maxRecDepth 20000
set_option linter.unusedSimpArgs false
open Go.RowKit Go.HeapKit

/-- The error that the document asks. -/
def RefIs (l : List Cl) (most er : Int) : Prop := (badE l most ≠ 0 → er = badE l most) ∧ (badE l most = 0 → (er = 41 ∧ ∀ x zs, Rch l most.toNat x zs → thrB l x 4 = false) ∨ (er = 0 ∧ ∃ x zs, Rch l most.toNat x zs ∧ thrB l x 4 = true))
theorem RefIs.same {l : List Cl} {most er er' : Int} (h : RefIs l most er) (h' : RefIs l most er') : er = er' := by
  by_cases hb : badE l most = 0
  · rcases h.2 hb with ⟨e, h1⟩ | ⟨e, x, zs, h1, h2⟩ <;> rcases h'.2 hb with ⟨e', h1'⟩ | ⟨e', x', zs', h1', h2'⟩
    · rw [e, e']
    · rw [h1 _ _ h1'] at h2'
      cases h2'
    · rw [h1' _ _ h1] at h2
      cases h2
    · rw [e, e']
  · rw [h.1 hb, h'.1 hb]
theorem Ords.len {l : List Cl} {most : Nat} {x : C4} {zs os : List Int} (h : Ords l most x zs os) : os.length = x.sum := by
  induction h with
  | nil => rfl
  | more _ hi _ _ _ _ ih => rw [C4.sum_inc _ hi, List.length_append, ih]; rfl
/-- What Order tells, for a caller. -/
def OrdTold (w : World) (l : List Cl) (most : Int) (e : Ending) (w' : World) : Prop := ∃ (oa : Option Addr) (on : Nat) (er : Int) (os : List Int), e = .returned (.tuple #[.slice oa on on, .int .i64 er]) ∧ Keeps None w w' ∧ on ≤ 160 ∧ os.length = on ∧ w'.ownsRow w.heap.size 3 1 (.slice oa on on) on (os.map (Value.int .i64)) ∧ RefIs l most er ∧ (er ≠ 0 → on = 0) ∧ (er = 0 → legalB l most os = true)
theorem order_told (a : Option Addr) (n c : Nat) (l : List Cl) (most : Int) (w : World) (hS : Seen w a n l) (hn : (n + 1) * 56 ≤ 140737488355328) : Calls Try.prog 7 #[.slice a n c, .int .i64 most] w (OrdTold w l most) :=
  (order_ok a n c l most w hS hn).mono fun e w' h => by
    obtain ⟨v, er, rfl, hk, h1, h2⟩ := h
    by_cases hb : badE l most = 0
    · have hh := (badE_zero hb).2.2
      rcases h2 hb with ⟨rfl, hs, rfl⟩ | ⟨rfl, x, zs, hr, hin, ht, g, os, M, rfl, hg, hlow, hway, hpath⟩
      · exact ⟨none, 0, 41, [], rfl, hk, by omega, rfl, row_nil _ _ _ _, ⟨fun h => absurd hb h, fun _ => .inl ⟨rfl, fun x zs hr => hs.none hh hr⟩⟩, fun _ => rfl, fun h => absurd h (by decide)⟩
      · obtain ⟨zs2, ho⟩ := hway.ords hh hpath
        have hlen : os.length ≤ 160 := by
          rw [ho.len]
          exact hin.sum (badE_zero hb).1
        refine ⟨_, os.length, 0, os, rfl, hk, hlen, rfl, ⟨by simp, .inr ⟨g, os.length, _, rfl, hlow, hg, Nat.le_refl _, by unfold maxLen; omega, by simp, by simp [List.take_of_length_le]⟩⟩, ⟨fun h => absurd hb h, fun _ => .inr ⟨rfl, x, zs, hr, ht⟩⟩, fun h => absurd rfl h, fun _ => ho.legal hb ht⟩
    · obtain ⟨e1, rfl⟩ := h1 hb
      exact ⟨none, 0, er, [], rfl, hk, by omega, rfl, row_nil _ _ _ _, ⟨fun _ => e1, fun h => absurd h hb⟩, fun _ => rfl, fun h => absurd (e1.symm.trans h) hb⟩
/-- The document's error. -/
theorem refused_ok (a : Option Addr) (n c : Nat) (l : List Cl) (most : Int) (w : World) (hS : Seen w a n l) (hn : (n + 1) * 56 ≤ 140737488355328) : Calls Try.prog 15 #[.slice a n c, .int .i64 most] w fun e w' => ∃ er, e = .returned (.int .i64 er) ∧ Keeps None w w' ∧ RefIs l most er := by
  have hbd := bad_ok a n c l most w hS hn
  obtain ⟨E, hE⟩ : ∃ E, E = badE l most := ⟨_, rfl⟩
  rw [← hE] at hbd
  have HS : Hid (Seen w a n l ∧ E = badE l most) := ⟨hS, hE⟩
  clear hS hE
  by_cases h0 : E = 0
  · subst h0
    obtain ⟨h40, ⟨m, rfl, hm1, hm2⟩, hh⟩ := badE_zero HS.out.2.symm
    have hl := HS.out.1.len
    have HH : Hid (∀ w', Keeps None w w' → Calls Try.prog 28 #[.slice a n c, .int .i64 (m : Int)] w' (HasPost w' l m)) := fun w' hk => has_ok a n c l m w' (HS.out.1.more hk) (by omega) hm2 hh
    clear h40 hh hl
    go_enter Try.func15, Try.ntmps15
    go_wp2_with fail
    refine hbd.mono ?_
    rintro _ w1 ⟨rfl, hk1⟩
    have H1 : Hid (Keeps None w w1) := hk1
    clear hk1 hbd
    go_wp2_with fail
    refine (HH.out w1 H1.out).mono ?_
    rintro _ w2 ⟨b, rfl, hk2, hb1, hb2⟩
    have H2 : Hid (Keeps None w w2) := H1.out.trans hk2 (fun _ f _ => f)
    cases b with
    | true =>
      have HF : Hid (RefIs l m 0) := ⟨fun h => absurd HS.out.2.symm h, fun _ => .inr ⟨rfl, hb1 rfl⟩⟩
      clear hk2 hb1 hb2 H1 HH
      go_wp2_with fail
      go_ret
      exact ⟨_, rfl, H2.out, HF.out⟩
    | false =>
      have HF : Hid (RefIs l m 41) := ⟨fun h => absurd HS.out.2.symm h, fun _ => .inl ⟨rfl, hb2 rfl⟩⟩
      clear hk2 hb1 hb2 H1 HH
      go_wp2_with fail
      go_ret
      exact ⟨_, rfl, H2.out, HF.out⟩
  · have hq : (E != 0) = true := by simpa using h0
    have HF : Hid (RefIs l most E) := ⟨fun _ => HS.out.2, fun h => absurd (HS.out.2.trans h) h0⟩
    clear h0
    go_enter Try.func15, Try.ntmps15
    go_wp2_with fail
    refine hbd.mono ?_
    rintro _ w1 ⟨rfl, hk1⟩
    have H1 : Hid (Keeps None w w1) := hk1
    clear hk1 hbd
    go_wp2_with fail
    go_ret
    exact ⟨_, rfl, H1.out, HF.out⟩
theorem seen_row {w : World} {base : Nat} {oa : Option Addr} {on : Nat} {os : List Int} (h : w.ownsRow base 3 1 (.slice oa on on) on (os.map (Value.int .i64))) (hl : os.length = on) : SeenI w oa on os := by
  refine ⟨hl.symm, fun h0 => ?_⟩
  rcases h.2 with ⟨_, h1⟩ | ⟨g, cap, cur, e, hb, hg, hnc, hcm, hcs, htk⟩
  · omega
  · injection e with e1 e2 e3
    subst e1
    refine ⟨g, 0, rfl, (Array.getElem?_eq_some_iff.1 hg).1, fun k z hz => ?_⟩
    have h1 : (os.map (Value.int .i64))[k]? = some (.int .i64 z) := by rw [List.getElem?_map, hz]; rfl
    rw [← htk, List.getElem?_take] at h1
    rw [Nat.zero_add, blk_cell hg, ← Array.getElem?_toList]
    split at h1
    · exact h1
    · cases h1
set_option maxHeartbeats 8000000 in
theorem histOrder_walk (a : Option Addr) (n c : Nat) (l : List Cl) (most : Int) (w : World) (hS : Seen w a n l) (hn : n * 56 ≤ 140737488351232) :
    Calls Try.prog 4 #[.slice a n c, .int .i64 most] w fun e w' => e = .returned (.bool true) ∧ Below w.heap.size w w' := by
  have HS : Hid (Seen w a n l) := hS
  clear hS
  go_enter Try.func4, Try.ntmps4
  go_wp2_with fail
  refine (moved_ok a n c l w HS.out (by omega)).mono ?_
  rintro e w1 ⟨g, cap, l', rfl, hR1, hk1⟩
  have HR1 : Hid (Room w1 w.heap.size g n cap l' ∧ Keeps None w w1) := ⟨hR1, hk1⟩
  clear hR1 hk1
  go_wp2_with fail
  refine (order_told (some ⟨g, 0, none⟩) n cap l' most w1 HR1.out.1.seen (by omega)).mono ?_
  rintro e w2 ⟨oa', on', er', os', rfl, hk2, -⟩
  have HR2 : Hid (Room w2 w.heap.size g n cap l' ∧ Keeps None w w2) := ⟨HR1.out.1.kept hk2 (fun f => f), HR1.out.2.trans hk2 (fun _ f _ => f)⟩
  clear hk2 HR1
  go_wp2_with fail
  refine (back_ok a n c w.heap.size g cap l l' w2 HR2.out.1 (HS.out.more HR2.out.2) (fun h0 b e e2 => by have := HS.out.low h0 e; have := HR2.out.1.low; omega) (by omega)).mono ?_
  rintro e w3 ⟨rfl, hR3, hk3⟩
  have HR3 : Hid (Room w3 w.heap.size g n cap l ∧ Seen w3 a n l ∧ Below w.heap.size w w3) := by
    obtain ⟨h1, h3⟩ := HR2.out
    exact ⟨hR3, (HS.out.more h3).kept hk3 (fun h0 b e _ e2 => by have := HS.out.low h0 e; have := h1.low; omega), (h3.below _ (Nat.le_refl _) (fun _ f => f.elim)).trans (hk3.below _ h3.size (fun k e => e ▸ h1.low))⟩
  clear HR2 hR3 hk3 HS
  go_wp2_with fail
  refine (order_told (some ⟨g, 0, none⟩) n cap l most w3 HR3.out.1.seen (by omega)).mono ?_
  rintro e w4 ⟨oa, on, er, os, rfl, hk4, ho4, hol, hor, hre, hno, hle⟩
  have HR4 : Hid (Room w4 w.heap.size g n cap l ∧ Seen w4 a n l ∧ Below w.heap.size w w4 ∧ SeenI w4 oa on os ∧ RefIs l most er ∧ (er ≠ 0 → on = 0) ∧ (er = 0 → legalB l most os = true)) := ⟨HR3.out.1.kept hk4 (fun f => f), HR3.out.2.1.more hk4, HR3.out.2.2.trans (hk4.below _ HR3.out.2.2.size (fun _ f => f.elim)), seen_row hor hol, hre, hno, hle⟩
  clear HR3 hk4 hol hor hre hno hle
  go_wp2_with fail
  refine (order_told (some ⟨g, 0, none⟩) n cap l most w4 HR4.out.1.seen (by omega)).mono ?_
  rintro e w5 ⟨pa, pn, fr, ps, rfl, hk5, hp4, hpl, hpr, hre, -, -⟩
  have hef : fr = er := hre.same HR4.out.2.2.2.2.1
  subst hef
  have HP : Hid (ps.length = pn ∧ w5.ownsRow w4.heap.size 3 1 (.slice pa pn pn) pn (ps.map (Value.int .i64)) ∧ Keeps None w4 w5) := ⟨hpl, hpr, hk5⟩
  clear hk5 hpl hpr hre
  go_wp2_with fail
  go_loopw [10] (fun i wr => ∃ k : Nat, k ≤ pn ∧ i = .int .i64 k ∧ (∃ p2 : List Int, p2.length = pn ∧ wr.ownsRow w4.heap.size 3 1 (.slice pa pn pn) pn (p2.map (Value.int .i64))) ∧ Keeps None w4 wr) (fun i _ => pn - (intOf i).toNat)
  case atStart => exact ⟨0, Nat.zero_le _, rfl, ⟨ps, HP.out.1, HP.out.2.1⟩, HP.out.2.2⟩
  case round =>
    clear HP
    obtain ⟨k, hk, rfl, ⟨p2, hp2, hrow⟩, hkp⟩ := hrel
    by_cases hkn : k < pn
    · have i1 : (k : Int) < (pn : Int) := by omega
      obtain ⟨z, hz⟩ : ∃ z, p2[k]? = some z := ⟨p2[k]'(by omega), by simp⟩
      obtain ⟨h, e, hlow, _, _, y0, hf⟩ := vals_elem (u := .int .i64 z) hrow (by rw [List.getElem?_map, hz]; rfl)
      subst e
      have f0 := hf k
      have HN : Hid ((∃ p2 : List Int, p2.length = pn ∧ (wr.setCell ⟨h, k, none⟩ (.int .i64 (-1 - (k : Int)))).ownsRow w4.heap.size 3 1 (.slice (some ⟨h, 0, none⟩) pn pn) pn (p2.map (Value.int .i64))) ∧ Keeps None w4 (wr.setCell ⟨h, k, none⟩ (.int .i64 (-1 - (k : Int))))) := by
        refine ⟨⟨p2.set k (-1 - (k : Int)), by simpa using hp2, ?_⟩, hkp.trans (Keeps.setCell (S := (· = h)) wr (a := ⟨h, k, none⟩) rfl _) (fun i e hi => by omega)⟩
        rw [List.map_set]
        exact row_set hrow k _
      clear hrow hkp hz hf hp2
      go_wp2
      go_roundw
      case rel => exact ⟨k + 1, by omega, by go_num, HN.out⟩
      case measure => simp [intOf]; omega
    · have hkn2 : k = pn := by omega
      subst hkn2
      have i1 : ¬ (k : Int) < (k : Int) := by omega
      obtain ⟨h2, hcap, w6, hr, ho, hk6, hm⟩ := int_more w4.heap.size (.slice pa k k) p2 (-100) k 32 wr.heap.size (wr.alloc (.cells #[.int .i64 (-100)] 3)) hp2.symm (hrow.alloc _) (by have := hkp.size; simp; omega) (by omega) (blk_new _ _ _ rfl)
      have k6 : Keeps None w4 w6 := (hkp.andAlloc _).trans hk6 (fun i e hi => by have := row_low hrow e; omega)
      have HR6 : Hid (Room w6 w.heap.size g n cap l ∧ Seen w6 a n l ∧ Below w.heap.size w w6 ∧ SeenI w6 oa on os) := ⟨HR4.out.1.kept k6 (fun f => f), HR4.out.2.1.more k6, HR4.out.2.2.1.trans (k6.below _ HR4.out.2.2.1.size (fun _ f => f.elim)), HR4.out.2.2.2.1.more k6⟩
      have HE : Hid (RefIs l most fr ∧ (fr ≠ 0 → on = 0) ∧ (fr = 0 → legalB l most os = true)) := HR4.out.2.2.2.2
      clear hrow hkp ho hk6 hm hp2 k6 HR4
      go_upto_region 11 with (at_builtin; refine wpList_append_run rfl (.tmp 42) (.tmp 43) 32 32 rfl rfl rfl hr ?_)
      clear hr
      have HSM : Hid (Calls Try.prog 13 #[.slice (some ⟨g, 0, none⟩) n cap, .slice a n c] w6 fun e w' => e = .returned (.bool true) ∧ ∃ m, w' = w6.drewN m) := same_ok (some ⟨g, 0, none⟩) a n cap c l w6 HR6.out.1.seen HR6.out.2.1 (by omega)
      have HMK : Hid (∀ m, Calls Try.prog 14 #[.slice (some ⟨g, 0, none⟩) n cap] (w6.drewN m) fun e w' => e = .returned (.bool true) ∧ w' = w6.drewN m) := fun m => marked_ok n w.heap.size g cap l (w6.drewN m) (HR6.out.1.kept (keeps_drewN m) (fun f => f)) (by omega)
      have HRF : Hid (∀ m, Calls Try.prog 15 #[.slice a n c, .int .i64 most] (w6.drewN m) fun e w' => e = .returned (.int .i64 fr) ∧ Keeps None w6 w') := fun m => (refused_ok a n c l most (w6.drewN m) (HR6.out.2.1.more (keeps_drewN m)) (by omega)).mono fun e w' h => by
        obtain ⟨er, rfl, hk, hre⟩ := h
        rw [hre.same HE.out.1]
        exact ⟨rfl, (keeps_drewN m).trans hk (fun _ f _ => f)⟩
      have e1 : (fr != fr) = false := by simp
      have i2 : ¬ ((k : Int) + 1 < 1) := by omega
      by_cases h0 : fr = 0
      · subst h0
        have HL : Hid (legalB l most os = true) := HE.out.2.2 rfl
        clear HE
        go_wp2_with (first | (go_at_call 13; refine Calls.mono HSM.out ?_; rintro _ w7 ⟨rfl, m7, rfl⟩) | (go_at_call 14; refine Calls.mono (HMK.out _) ?_; rintro _ w8 ⟨rfl, hw8⟩; have hw8' := hw8.symm; subst hw8'; clear hw8) | (go_at_call 15; refine Calls.mono (HRF.out _) ?_; rintro _ w9 ⟨rfl, hk9⟩; have H9 : Hid _ := hk9; clear hk9) | (go_at_call 16; refine Calls.mono (rlegal_ok a n c l most oa on on os _ (HR6.out.2.1.more H9.out) (HR6.out.2.2.2.more H9.out) (by omega) (by omega)) ?_; rintro _ w10 ⟨rfl, hk10⟩; rw [HL.out]; have H10 : Hid _ := hk10; clear hk10))
        go_ret
        exact ⟨rfl, (HR6.out.2.2.1.trans (H9.out.below _ HR6.out.2.2.1.size (fun _ f => f.elim))).trans (H10.out.below _ (Nat.le_trans HR6.out.2.2.1.size H9.out.size) (fun _ f => f.elim))⟩
      · have hq : (fr != 0) = true := by simpa using h0
        have hon : on = 0 := HE.out.2.1 h0
        subst hon
        clear HE h0
        go_wp2_with (first | (go_at_call 13; refine Calls.mono HSM.out ?_; rintro _ w7 ⟨rfl, m7, rfl⟩) | (go_at_call 14; refine Calls.mono (HMK.out _) ?_; rintro _ w8 ⟨rfl, hw8⟩; have hw8' := hw8.symm; subst hw8'; clear hw8) | (go_at_call 15; refine Calls.mono (HRF.out _) ?_; rintro _ w9 ⟨rfl, hk9⟩; have H9 : Hid _ := hk9; clear hk9))
        go_ret
        exact ⟨rfl, HR6.out.2.2.1.trans (H9.out.below _ HR6.out.2.2.1.size (fun _ f => f.elim))⟩
end Go.Proofs.Ytheginjjncnheaa
