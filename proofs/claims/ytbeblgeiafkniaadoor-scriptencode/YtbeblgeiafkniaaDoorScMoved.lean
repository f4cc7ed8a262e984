import Derived.Test.YtbeblgeiafkniaaDoorScLaw
/-! The laws' own copy of a list: with other numbers and a mark behind them, then with the right ones. -/
namespace Go.Proofs.YtbeblgeiafkniaaDoor
set_option linter.unusedVariables false
set_option maxRecDepth 20000
open Go.RowKit Go.HeapKit

structure Room (w : World) (base g n cap : Nat) (l : List Int) : Prop where
  len : n = l.length
  row : w.ownsRow base 3 1 (.slice (some ⟨g, 0, none⟩) (n + 1) cap) (n + 1) (iv (l ++ [-77]))
section
variable {w w' : World} {base g n cap : Nat} {l : List Int}
theorem Room.lt (h : Room w base g n cap l) : g < w.heap.size := own_lt h.row rfl
theorem Room.low (h : Room w base g n cap l) : base ≤ g := row_low h.row rfl
theorem Room.kept {S : Nat → Prop} (h : Room w base g n cap l) (hk : Keeps S w w') (hS : ¬ S g) : Room w' base g n cap l :=
  ⟨h.len, row_kept h.row hk (fun k e => by simp [Value.ownBlock] at e; subst e; exact hS)⟩
theorem Room.more (h : Room w base g n cap l) (hk : Keeps None w w') : Room w' base g n cap l := h.kept hk (fun f => f)
theorem Room.at (h : Room w base g n cap l) {k : Nat} {x : Int} (hx : (l ++ [-77])[k]? = some x) : w.cell? ⟨g, k, none⟩ = some (.int .i64 x) ∧ ∀ i, w.frozen? ⟨g, i, none⟩ = false := by
  obtain ⟨g', e, _, _, _, _, h1, h3⟩ := row_elem h.row hx
  injection e with e
  injection e with e
  subst e
  exact ⟨h1, h3⟩
theorem Room.seen (h : Room w base g n cap l) : SeenN w (some ⟨g, 0, none⟩) n l := by
  refine ⟨h.len, fun h0 => ⟨g, 0, rfl, h.lt, fun k x hx => ?_⟩⟩
  obtain ⟨h1, _⟩ := h.at (k := k) (x := x) (by rw [List.getElem?_append_left (List.getElem?_eq_some_iff.1 hx).1]; exact hx)
  rw [Nat.zero_add]
  exact h1
theorem Room.fits (h : Room w base g n cap l) : n + 1 ≤ cap := by
  rcases h.row.2 with ⟨e, _⟩ | ⟨g', cap', cur, e, _, _, hn, _⟩
  · cases e
  · injection e with _ _ e; subst e; exact hn
theorem Room.mark (h : Room w base g n cap l) : w.cell? ⟨g, n, none⟩ = some (.int .i64 (-77)) := (h.at (k := n) (x := -77) (by rw [h.len]; simp)).1
theorem Room.put (h : Room w base g n cap l) {k : Nat} (hk : k < n) (x : Int) : Room (w.setCell ⟨g, k, none⟩ (.int .i64 x)) base g n cap (l.set k x) := by
  refine ⟨by simpa using h.len, ?_⟩
  have := row_setI h.row k x
  rwa [List.set_append_left _ _ (by have := h.len; omega)] at this
end
theorem take_setN {l l' : List Int} {k : Nat} {x : Int} (hx : l[k]? = some x) (hl : k < l'.length) : (l.take k ++ l'.drop k).set k x = l.take (k + 1) ++ l'.drop (k + 1) := by
  have hk := (List.getElem?_eq_some_iff.1 hx).1
  rw [List.set_append_right _ _ (by simp; omega), List.length_take, Nat.min_eq_left (by omega), Nat.sub_self, List.take_add_one, hx, List.drop_eq_getElem_cons hl, List.set_cons_zero]
  simp
set_option maxHeartbeats 1600000 in
theorem moved_any (a : Option Addr) (m c : Nat) (l : List Int) (w : World) (h : SeenN w a m l) (hs : m * 8 ≤ 140737488351232) :
    Calls Tryd.prog 5 #[.slice a m c] w fun e w' => ∃ g cap, e = .returned (.slice (some ⟨g, 0, none⟩) m cap) ∧ (∃ l', Room w' w.heap.size g m cap l') ∧ Keeps None w w' := by
  have HS : Hid (SeenN w a m l) := h
  clear h
  go_enter Tryd.func5, Tryd.ntmps5
  go_wp2_with fail
  go_loopw [4, 3] (fun s4 s3 wr => ∃ (k : Nat) (l' : List Int), s4 = .int .i64 k ∧ k ≤ m ∧ wr.ownsRow w.heap.size 3 1 s3 k (iv l') ∧ Keeps None w wr) (fun s4 _ _ => m - (intOf s4).toNat)
  case atStart => exact ⟨0, [], rfl, Nat.zero_le _, row_nil _ _ _ _, Keeps.refl _ _⟩
  case round =>
    obtain ⟨k, l', rfl, hk, hrow, hkp⟩ := hrel
    obtain ⟨sa, cs, rfl⟩ := row_shape hrow
    have hl := row_len hrow
    by_cases hkm : k < m
    · obtain ⟨b, off, x, rfl, he, c1⟩ := (HS.out.more hkp).at hkm
      have m0 : ¬ m = 0 := by omega
      have i1 : (k : Int) < (m : Int) := by omega
      obtain ⟨g, cp, w2, hr, ho, hk2, hm⟩ := int_more w.heap.size (.slice sa k cs) l' (wrap64 (x + 1)) k 22 wr.heap.size (wr.alloc (.cells #[.int .i64 (wrap64 (x + 1))] 3)) hl (row_more hrow (keeps1 _ _)) (by have := hkp.size; simp; omega) (by omega) (blk_new _ _ _ rfl)
      have HN : Hid (w2.ownsRow w.heap.size 3 1 (.slice (some ⟨g, 0, none⟩) (k + 1) cp) (k + 1) (iv (l' ++ [wrap64 (x + 1)])) ∧ Keeps None w w2) :=
        ⟨ho, (hkp.andAlloc _).trans hk2 (fun i e hi => by have := row_low hrow e; omega)⟩
      clear hrow hkp ho hk2 hm hl HS he
      go_wp2_with (at_builtin; refine wpList_append_run rfl (.tmp 11) (.tmp 17) 22 22 rfl rfl rfl hr ?_)
      exact ⟨⟨k + 1, _, by go_num, by omega, HN.out⟩, by simp [intOf]; omega⟩
    · have i1 : ¬ (k : Int) < (m : Int) := by omega
      obtain rfl : k = m := by omega
      obtain ⟨g, cp, w2, hr, ho, hk2, hm⟩ := int_more w.heap.size (.slice sa k cs) l' (-77) k 22 wr.heap.size (wr.alloc (.cells #[.int .i64 (-77)] 3)) hl (row_more hrow (keeps1 _ _)) (by have := hkp.size; simp; omega) (by omega) (blk_new _ _ _ rfl)
      have hR : Room w2 w.heap.size g k cp l' := ⟨hl, ho⟩
      have hf := hR.fits
      have f1 : (k : Int) ≤ (cp : Int) := by omega
      have HN : Hid (Room w2 w.heap.size g k cp l' ∧ Keeps None w w2) := ⟨hR, (hkp.andAlloc _).trans hk2 (fun i e hi => by have := row_low hrow e; omega)⟩
      clear hrow hkp ho hk2 hm hl hR
      go_wp2_with (at_builtin; refine wpList_append_run rfl (.tmp 19) (.tmp 20) 22 22 rfl rfl rfl hr ?_)
      go_ret
      exact ⟨g, cp, rfl, ⟨_, HN.out.1⟩, HN.out.2⟩
set_option maxHeartbeats 1600000 in
theorem back_any (base g m cap : Nat) (a : Option Addr) (c : Nat) (l l' : List Int) (w : World) (h : SeenN w a m l) (hR : Room w base g m cap l') (ha : 0 < m → ∀ x, a = some x → x.block ≠ g) (hs : m * 8 ≤ 140737488351232) :
    Calls Tryd.prog 7 #[.slice (some ⟨g, 0, none⟩) m cap, .slice a m c] w fun e w' => e = .returned (.tuple #[]) ∧ Room w' base g m cap l ∧ Keeps (· = g) w w' := by
  have HS : Hid (SeenN w a m l) := h
  have HA : Hid (0 < m → ∀ x, a = some x → x.block ≠ g) := ha
  have hl : Hid (m = l.length) := h.len
  have HR : Hid (Room w base g m cap l') := hR
  have hfit := hR.fits
  clear h hR ha
  go_enter Tryd.func7, Tryd.ntmps7
  go_wp2_with fail
  go_loopw [4] (fun s4 wr => ∃ k : Nat, s4 = .int .i64 k ∧ k ≤ m ∧ Room wr base g m cap (l.take k ++ l'.drop k) ∧ Keeps (· = g) w wr) (fun s4 _ => m - (intOf s4).toNat)
  case atStart => exact ⟨0, rfl, Nat.zero_le _, by simpa using HR.out, Keeps.refl _ _⟩
  case round =>
    obtain ⟨k, rfl, hk, hroom, hkp⟩ := hrel
    by_cases hkm : k < m
    · obtain ⟨b, off, x, rfl, he, c1⟩ := (HS.out.kept hkp (fun x ex _ _ => HA.out (by omega) x ex)).at hkm
      have h2 := hl.out
      have h3 := HR.out.len
      obtain ⟨y, hy⟩ : ∃ y, (l.take k ++ l'.drop k ++ [-77])[k]? = some y := ⟨_, List.getElem?_eq_getElem (by simp; omega)⟩
      obtain ⟨z0, hf⟩ := hroom.at hy
      have f0 := hf k
      have m0 : ¬ m = 0 := by omega
      have i1 : (k : Int) < (m : Int) := by omega
      have HN : Hid (Room (wr.setCell ⟨g, k, none⟩ (.int .i64 x)) base g m cap (l.take (k + 1) ++ l'.drop (k + 1)) ∧ Keeps (· = g) w (wr.setCell ⟨g, k, none⟩ (.int .i64 x))) := by
        have := hroom.put hkm x
        rw [take_setN he (by omega)] at this
        exact ⟨this, keeps_one hkp _⟩
      clear hroom hkp hy hf h2 h3 he HS
      go_wp2_with fail
      exact ⟨⟨k + 1, by go_num, by omega, HN.out⟩, by simp [intOf]; omega⟩
    · have i1 : ¬ (k : Int) < (m : Int) := by omega
      obtain rfl : k = m := by omega
      have HN : Hid (Room wr base g k cap l ∧ Keeps (· = g) w wr) := by
        have h2 := hl.out
        have h3 := HR.out.len
        rw [List.take_of_length_le (by omega), List.drop_eq_nil_of_le (by omega), List.append_nil] at hroom
        exact ⟨hroom, hkp⟩
      clear hroom hkp
      go_wp2_with fail
      go_end0
      exact ⟨rfl, HN.out⟩
theorem marked_any (base g m cap : Nat) (l : List Int) (w : World) (hR : Room w base g m cap l) (hs : m * 8 ≤ 140737488351232) :
    Calls Tryd.prog 10 #[.slice (some ⟨g, 0, none⟩) m cap] w fun e w' => e = .returned (.bool true) ∧ w' = w := by
  have hf := hR.fits
  have z0 := hR.mark
  have f1 : (m : Int) + 1 ≤ (cap : Int) := by omega
  have f2 : (m : Int) < (m : Int) + 1 := by omega
  clear hR
  go_enter Tryd.func10, Tryd.ntmps10
  go_wp2_with fail
  go_ret
  exact ⟨rfl, rfl⟩
end Go.Proofs.YtbeblgeiafkniaaDoor
