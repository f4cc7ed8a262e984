import Derived.Test.YtngeddopbpdcnaaHiLegal
import Derived.Test.YtngeddopbpdcnaaOpenStruct
/-! The walk of HistLegal. -/
namespace Go.Proofs.Ytngeddopbpdcnaa
set_option linter.unusedVariables false
open Go.RowKit Go.HeapKit

/-- A list of numbers of the law's own, with a mark in the room behind it. -/
structure RoomI (w : World) (base g n cap : Nat) (zs : List Int) : Prop where
  len : n = zs.length
  row : w.ownsRow base 3 1 (.slice (some ⟨g, 0, none⟩) (n + 1) cap) (n + 1) ((zs ++ [-77]).map (Value.int .i64))
section
variable {w w' : World} {base g n cap : Nat} {zs : List Int}
theorem RoomI.lt (h : RoomI w base g n cap zs) : g < w.heap.size := own_lt h.row rfl
theorem RoomI.low (h : RoomI w base g n cap zs) : base ≤ g := row_low h.row rfl
theorem RoomI.kept {S : Nat → Prop} (h : RoomI w base g n cap zs) (hk : Keeps S w w') (hS : ¬ S g) : RoomI w' base g n cap zs :=
  ⟨h.len, row_kept h.row hk (fun k e => by simp [Value.ownBlock] at e; subst e; exact hS)⟩
theorem RoomI.at (h : RoomI w base g n cap zs) {k : Nat} {z : Int} (hz : (zs ++ [-77])[k]? = some z) : w.cell? ⟨g, k, none⟩ = some (.int .i64 z) ∧ ∀ i, w.frozen? ⟨g, i, none⟩ = false := by
  obtain ⟨g', e, _, _, _, h1, h2⟩ := vals_elem (u := .int .i64 z) h.row (by rw [List.getElem?_map, hz]; rfl)
  injection e with e
  injection e with e
  subst e
  exact ⟨h1, h2⟩
theorem RoomI.seen (h : RoomI w base g n cap zs) : SeenI w (some ⟨g, 0, none⟩) n zs := by
  refine ⟨h.len, fun h0 => ⟨g, 0, rfl, h.lt, fun k z hz => ?_⟩⟩
  rw [Nat.zero_add]
  exact (h.at (by rw [List.getElem?_append_left (List.getElem?_eq_some_iff.1 hz).1]; exact hz)).1
theorem RoomI.fits (h : RoomI w base g n cap zs) : n + 1 ≤ cap := by
  rcases h.row.2 with ⟨e, _⟩ | ⟨g', cap', cur, e, _, _, hn, _⟩
  · cases e
  · injection e with _ _ e; subst e; exact hn
theorem RoomI.mark (h : RoomI w base g n cap zs) : w.cell? ⟨g, n, none⟩ = some (.int .i64 (-77)) := (h.at (k := n) (by rw [h.len]; simp)).1
theorem RoomI.put (h : RoomI w base g n cap zs) {k : Nat} (hk : k < n) (z : Int) : RoomI (w.setCell ⟨g, k, none⟩ (.int .i64 z)) base g n cap (zs.set k z) := by
  refine ⟨by simpa using h.len, ?_⟩
  have := row_set h.row k (.int .i64 z)
  rw [← List.map_set, List.set_append_left _ _ (by have := h.len; omega)] at this
  exact this
end
set_option maxHeartbeats 8000000 in
set_option maxRecDepth 100000 in
theorem histLegal_walk (a : Option Addr) (n c : Nat) (l : List Cl) (most : Int) (ao : Option Addr) (no co : Nat) (zs : List Int) (w : World) (hS : Seen w a n l) (hO : SeenI w ao no zs) (hn : n * 56 ≤ 140737488351232) (hno : no * 8 ≤ 140737488351232) :
    Calls Try.prog 7 #[.slice a n c, .int .i64 most, .slice ao no co] w fun e w' => e = .returned (.bool true) ∧ Below w.heap.size w w' := by
  have HS : Hid (Seen w a n l ∧ SeenI w ao no zs) := ⟨hS, hO⟩
  clear hS hO
  go_enter Try.func7, Try.ntmps7
  go_wp2_with fail
  refine (moved_ok a n c l w HS.out.1 (by omega)).mono ?_
  rintro e w1 ⟨g, cap, l', rfl, hR1, hk1⟩
  have HR1 : Hid (Room w1 w.heap.size g n cap l' ∧ Keeps None w w1) := ⟨hR1, hk1⟩
  clear hR1 hk1
  go_wp2_with fail
  go_loopw [8, 9] (fun s i wr => ∃ k : Nat, k ≤ no ∧ i = .int .i64 k ∧ (∃ l' : List Int, l'.length = k ∧ wr.ownsRow w1.heap.size 3 1 s k (l'.map (Value.int .i64))) ∧ Keeps None w1 wr) (fun _ i _ => no - (intOf i).toNat)
  case atStart => exact ⟨0, Nat.zero_le _, rfl, ⟨[], rfl, row_nil _ _ _ _⟩, Keeps.refl _ _⟩
  case round =>
    obtain ⟨k, hk, rfl, ⟨l2, hl2, hrow⟩, hkp⟩ := hrel
    obtain ⟨sa, cs, rfl⟩ := row_shape hrow
    by_cases hkn : k < no
    · obtain ⟨b, off, rfl, hb, hc⟩ := ((HS.out.2.more HR1.out.2).more hkp).ex (by omega)
      obtain ⟨j, hj⟩ : ∃ j, j = no - 1 - k := ⟨_, rfl⟩
      obtain ⟨z, hz⟩ : ∃ z, zs[j]? = some z := ⟨zs[j]'(by have := HS.out.2.len; omega), by simp⟩
      have y0 := hc j z hz
      have i1 : (k : Int) < (no : Int) := by omega
      have i2 : (no : Int) - 1 - (k : Int) = (j : Int) := by omega
      have i3 : (j : Int) < (no : Int) := by omega
      obtain ⟨g2, cp, w2, hr, ho, hk2, hm⟩ := int_more w1.heap.size (.slice sa k cs) l2 z k 40 wr.heap.size (wr.alloc (.cells #[.int .i64 z] 3)) hl2.symm (hrow.alloc _) (by have := hkp.size; simp; omega) (by omega) (blk_new _ _ _ rfl)
      have HN : Hid ((∃ l' : List Int, l'.length = k + 1 ∧ w2.ownsRow w1.heap.size 3 1 (.slice (some ⟨g2, 0, none⟩) (k + 1) cp) (k + 1) (l'.map (Value.int .i64))) ∧ Keeps None w1 w2) :=
        ⟨⟨_, by simp [hl2], ho⟩, (hkp.andAlloc _).trans hk2 (fun i e hi => by have := row_low hrow e; omega)⟩
      clear hrow hkp ho hk2 hm hl2 hc hz hj
      go_wp2_with (at_builtin; refine wpList_append_run rfl (.tmp 21) (.tmp 30) 40 40 rfl rfl rfl hr ?_)
      exact ⟨⟨k + 1, by omega, by go_num, HN.out⟩, by simp [intOf]; omega⟩
    · have hkn2 : k = no := by omega
      subst hkn2
      obtain ⟨h, hcap, w2, hr, ho, hk2, hm⟩ := int_more w1.heap.size (.slice sa k cs) l2 (-77) k 40 wr.heap.size (wr.alloc (.cells #[.int .i64 (-77)] 3)) hl2.symm (hrow.alloc _) (by have := hkp.size; simp; omega) (by omega) (blk_new _ _ _ rfl)
      have hI : RoomI w2 w1.heap.size h k hcap l2 := ⟨hl2.symm, ho⟩
      have hk3 : Keeps None w1 w2 := (hkp.andAlloc _).trans hk2 (fun i e hi => by have := row_low hrow e; omega)
      have hfit := hI.fits
      have HR2 : Hid (Room w2 w.heap.size g n cap l' ∧ RoomI w2 w1.heap.size h k hcap l2 ∧ Keeps None w w2 ∧ g < h) := ⟨HR1.out.1.kept hk3 (fun f => f), hI, HR1.out.2.trans hk3 (fun _ f _ => f), by have := HR1.out.1.lt; have := hI.low; omega⟩
      clear hrow hkp ho hk2 hm hl2 hI hk3
      go_wp2_with (at_builtin; refine wpList_append_run rfl (.tmp 32) (.tmp 33) 40 40 rfl rfl rfl hr ?_)
      refine (legal_ok (some ⟨g, 0, none⟩) n cap l' most (some ⟨h, 0, none⟩) k hcap l2 w2 HR2.out.1.seen HR2.out.2.1.seen (by omega) (by omega) (by omega)).mono ?_
      rintro e w3 ⟨rfl, hk3⟩
      have HR3 : Hid (Room w3 w.heap.size g n cap l' ∧ RoomI w3 w1.heap.size h k hcap l2 ∧ Keeps None w w3 ∧ g < h) := ⟨HR2.out.1.kept hk3 (fun f => f), HR2.out.2.1.kept hk3 (fun f => f), HR2.out.2.2.1.trans hk3 (fun _ f _ => f), HR2.out.2.2.2⟩
      clear HR2 hk3 HR1 hr
      generalize legalB l' most l2 = t1
      go_wp2_with fail
      refine (back_ok a n c w.heap.size g cap l l' w3 HR3.out.1 (HS.out.1.more HR3.out.2.2.1) (fun h0 b e e2 => by have := HS.out.1.low h0 e; have := HR3.out.1.low; omega) (by omega)).mono ?_
      rintro e w4 ⟨rfl, hR4, hk4⟩
      have HR4 : Hid (Room w4 w.heap.size g n cap l ∧ RoomI w4 w1.heap.size h k hcap l2 ∧ Seen w4 a n l ∧ SeenI w4 ao k zs ∧ Below w.heap.size w w4 ∧ g < h) := by
        obtain ⟨h1, h2, h3, h4⟩ := HR3.out
        refine ⟨hR4, h2.kept hk4 (by omega), (HS.out.1.more h3).kept hk4 (fun h0 b e _ e2 => by have := HS.out.1.low h0 e; have := h1.low; omega), (HS.out.2.more h3).kept hk4 (fun h0 b e _ e2 => by have := HS.out.2.low h0 e; have := h1.low; omega), ?_, h4⟩
        exact (h3.below _ (Nat.le_refl _) (fun _ f => f.elim)).trans (hk4.below _ h3.size (fun k e => e ▸ h1.low))
      have HSL : Hid (0 < k → ∀ b, blockOf ao = some b → b < w.heap.size) := fun h0 b e => HS.out.2.low h0 e
      have HSA : Hid (0 < n → ∀ b, blockOf a = some b → b < w.heap.size) := fun h0 b e => HS.out.1.low h0 e
      clear HR3 hR4 hk4 HS
      go_wp2_with fail
      refine (legal_ok (some ⟨g, 0, none⟩) n cap l most (some ⟨h, 0, none⟩) k hcap l2 w4 HR4.out.1.seen HR4.out.2.1.seen (by omega) (by omega) (by omega)).mono ?_
      rintro e w5 ⟨rfl, hk5⟩
      have HR5 : Hid (Room w5 w.heap.size g n cap l ∧ RoomI w5 w1.heap.size h k hcap l2 ∧ Seen w5 a n l ∧ SeenI w5 ao k zs ∧ Below w.heap.size w w5 ∧ g < h) := by
        obtain ⟨h1, h2, h3, h4, h5, h6⟩ := HR4.out
        exact ⟨h1.kept hk5 (fun f => f), h2.kept hk5 (fun f => f), h3.more hk5, h4.more hk5, h5.trans (hk5.below _ h5.size (fun _ f => f.elim)), h6⟩
      clear HR4 hk5
      generalize legalB l most l2 = t2
      go_wp2_with fail
      go_loopw [10] (fun i wr => ∃ q : Nat, q ≤ k ∧ i = .int .i64 q ∧ RoomI wr w1.heap.size h k hcap (zs.take q ++ l2.drop q) ∧ Keeps (· = h) w5 wr) (fun i _ => k - (intOf i).toNat)
      case atStart => exact ⟨0, Nat.zero_le _, rfl, by simpa using HR5.out.2.1, Keeps.refl _ _⟩
      case round =>
        obtain ⟨q, hq, rfl, hroom, hkp⟩ := hrel
        by_cases hqk : q < k
        · obtain ⟨b, off, rfl, hb, hc⟩ := (HR5.out.2.2.2.1.kept hkp (fun h0 b e _ e2 => by have := HSL.out h0 b e; have := HR5.out.1.low; have := HR5.out.2.2.2.2.2; omega)).ex (by omega)
          have h1 := HR5.out.2.2.2.1.len
          have h2 := HR5.out.2.1.len
          obtain ⟨z, hz⟩ : ∃ z, zs[q]? = some z := ⟨zs[q]'(by omega), by simp⟩
          have y0 := hc q z hz
          obtain ⟨y, hy⟩ : ∃ y, (zs.take q ++ l2.drop q ++ [-77])[q]? = some y := ⟨_, List.getElem?_eq_getElem (by simp; omega)⟩
          obtain ⟨z0, hf⟩ := hroom.at hy
          have f0 := hf q
          have i1 : (q : Int) < (k : Int) := by omega
          have HN : Hid (RoomI (wr.setCell ⟨h, q, none⟩ (.int .i64 z)) w1.heap.size h k hcap (zs.take (q + 1) ++ l2.drop (q + 1)) ∧ Keeps (· = h) w5 (wr.setCell ⟨h, q, none⟩ (.int .i64 z))) := by
            have := hroom.put hqk z
            rw [take_setT hz (by omega)] at this
            exact ⟨this, hkp.trans (Keeps.setCell (S := (· = h)) wr (a := ⟨h, q, none⟩) rfl _) (fun _ e _ => e)⟩
          clear hc hz hroom hkp hy hf h1 h2 HR5
          go_wp2
          go_roundw
          case rel => exact ⟨q + 1, by omega, by go_num, HN.out⟩
          case measure => simp [intOf]; omega
        · have hqk2 : q = k := by omega
          subst hqk2
          have HR6 : Hid (Room wr w.heap.size g n cap l ∧ RoomI wr w1.heap.size h q hcap zs ∧ Seen wr a n l ∧ SeenI wr ao q zs ∧ Below w.heap.size w wr) := by
            obtain ⟨h1, h2, h3, h4, h5, h6⟩ := HR5.out
            have e1 := h4.len
            have e2 := h2.len
            rw [List.take_of_length_le (by omega), List.drop_eq_nil_of_le (by omega), List.append_nil] at hroom
            have hgl := h1.low
            exact ⟨h1.kept hkp (by omega), hroom, h3.kept hkp (fun h0 b e _ e2 => by have := HSA.out h0 b e; omega), h4.kept hkp (fun h0 b e _ e2 => by have := HSL.out h0 b e; omega), h5.trans (hkp.below _ h5.size (fun k e => by omega))⟩
          clear hroom hkp HR5
          go_wp2_with fail
          refine (legal_ok (some ⟨g, 0, none⟩) n cap l most (some ⟨h, 0, none⟩) q hcap zs wr HR6.out.1.seen HR6.out.2.1.seen (by omega) (by omega) (by omega)).mono ?_
          rintro e w7 ⟨rfl, hk7⟩
          have HR7 : Hid (Room w7 w.heap.size g n cap l ∧ RoomI w7 w1.heap.size h q hcap zs ∧ Seen w7 a n l ∧ SeenI w7 ao q zs ∧ Below w.heap.size w w7) := by
            obtain ⟨h1, h2, h3, h4, h5⟩ := HR6.out
            exact ⟨h1.kept hk7 (fun f => f), h2.kept hk7 (fun f => f), h3.more hk7, h4.more hk7, h5.trans (hk7.below _ h5.size (fun _ f => f.elim))⟩
          clear HR6 hk7
          go_wp2_with fail
          refine (same_ok (some ⟨g, 0, none⟩) a n cap c l w7 HR7.out.1.seen HR7.out.2.2.1 (by omega)).mono ?_
          rintro e w8 ⟨rfl, m8, rfl⟩
          go_wp2_with fail
          refine (marked_ok n w.heap.size g cap l (w7.drewN m8) (HR7.out.1.kept (keeps_drewN m8) (fun f => f)) (by omega)).mono ?_
          rintro e w9 ⟨rfl, hw9⟩
          have hw9' := hw9.symm
          subst hw9'
          clear hw9
          have hmk : (w7.drewN m8).cell? ⟨h, q, none⟩ = some (.int .i64 (-77)) := (keeps_drewN m8).cell HR7.out.2.1.mark (fun f => f)
          go_wp2_with fail
          go_loopw [12] (fun i wr => ∃ j : Nat, j ≤ q ∧ i = .int .i64 j ∧ ∃ x, wr = w7.drewN x) (fun i _ => q - (intOf i).toNat)
          case atStart => exact ⟨0, Nat.zero_le _, rfl, _, rfl⟩
          case round =>
            clear hmk
            obtain ⟨j, hj, rfl, xd, rfl⟩ := hrel
            by_cases hjq : j < q
            · obtain ⟨b, off, rfl, -, hc⟩ := HR7.out.2.2.2.1.ex (by omega)
              obtain ⟨z, hz⟩ : ∃ z, zs[j]? = some z := ⟨zs[j]'(by have := HR7.out.2.2.2.1.len; omega), by simp⟩
              have y0 := hc j z hz
              obtain ⟨z0, -⟩ := HR7.out.2.1.at (k := j) (z := z) (by rw [List.getElem?_append_left (List.getElem?_eq_some_iff.1 hz).1]; exact hz)
              have i1 : (j : Int) < (q : Int) := by omega
              clear hz hc HR7
              go_wp2
              go_quiet (fail)
              go_wp2
              go_roundw
              case rel => exact ⟨j + 1, by omega, by go_num, _, rfl⟩
              case measure => simp [intOf]; omega
            · have HE : Hid (Seen (w7.drewN xd) a n l ∧ SeenI (w7.drewN xd) ao q zs ∧ Below w.heap.size w (w7.drewN xd)) := by
                obtain ⟨h1, h2, h3, h4, h5⟩ := HR7.out
                have hk := keeps_drewN (w := w7) xd
                exact ⟨h3.more hk, h4.more hk, h5.trans (hk.below _ h5.size (fun _ f => f.elim))⟩
              clear HR7
              go_wp2_with fail
              refine (rlegal_ok a n c l most ao q co zs (w7.drewN xd) HE.out.1 HE.out.2.1 (by omega) (by omega)).mono ?_
              rintro e w10 ⟨rfl, hk10⟩
              have HF : Hid (Below w.heap.size w w10) := HE.out.2.2.trans (hk10.below _ HE.out.2.2.size (fun _ f => f.elim))
              clear HE hk10
              generalize legalB l most zs = D at *
              cases D
              · go_wp2_with fail
                go_ret
                exact ⟨rfl, HF.out⟩
              · go_wp2_with fail
                go_ret
                exact ⟨rfl, HF.out⟩
end Go.Proofs.Ytngeddopbpdcnaa
