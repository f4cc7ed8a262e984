import Derived.Test.YtnhoedodnbifdaaDgRow
import Derived.Test.YtnhoedodnbifdaaDgCheck
import Derived.Deep.RegionHeld3
import Derived.Deep.QuietTactic
import Derived.Deep.DeepCutAuto
import Derived.BigQuiet
/-! The law's own copy of a dag: the right edges written into it; whether the mark stands; two lists compared. -/
namespace Go.Proofs.Ytnhoedodnbifdaa
set_option linter.unusedVariables false
set_option maxRecDepth 20000
open Go.RowKit Go.HeapKit

theorem take_setE {l l' : List Ed} {k : Nat} {x : Ed} (hx : l[k]? = some x) (hl : k < l'.length) : (l.take k ++ l'.drop k).set k x = l.take (k + 1) ++ l'.drop (k + 1) := by
  have hk := (List.getElem?_eq_some_iff.1 hx).1
  rw [List.set_append_right _ _ (by simp; omega), List.length_take, Nat.min_eq_left (by omega), Nat.sub_self, List.take_add_one, hx, List.drop_eq_getElem_cons hl, List.set_cons_zero]
  simp
theorem blk_old2 {w : World} {g : Nat} {ob : Obj} (h : w.heap[g]? = some ob) (o : Obj) : (w.alloc o).heap[g]? = some ob := blk_kept h (Keeps.alloc None w o) (fun f => f)
theorem Keeps.drewN (S : Nat → Prop) (w : World) (m : Nat) : Keeps S w (w.drewN m) := by
  induction m with
  | zero => exact Keeps.refl _ _
  | succ m ih => exact ih.andDrew
theorem drew4 {w wr : World} {s0 base g m cap : Nat} {o1 o2 : Obj} {l : List Ed} (h : wr.heap[s0]? = some o1 ∧ wr.heap[s0 + 1]? = some o2 ∧ RoomE wr base g m cap l ∧ Keeps (· = g) w wr) :
    wr.drew.heap[s0]? = some o1 ∧ wr.drew.heap[s0 + 1]? = some o2 ∧ RoomE wr.drew base g m cap l ∧ Keeps (· = g) w wr.drew :=
  ⟨h.1, h.2.1, h.2.2.1.kept (Keeps.drew None _) (fun f => f), h.2.2.2.andDrew⟩
set_option maxHeartbeats 1600000 in
theorem back_any (n n2 : Int) (base g m cap : Nat) (a : Option Addr) (c : Nat) (l l' : List Ed) (w : World) (h : SeenE w a m l) (hR : RoomE w base g m cap l') (ha : 0 < m → ∀ x, a = some x → x.block ≠ g) (hs : m * 16 ≤ 140737488351232) :
    Calls Try.prog 11 #[dagV n (some ⟨g, 0, none⟩) m cap, dagV n2 a m c] w fun e w' => e = .returned (.tuple #[]) ∧ RoomE w' base g m cap l ∧ Keeps (· = g) w w' := by
  have HS : Hid (SeenE w a m l) := h
  have HA : Hid (0 < m → ∀ x, a = some x → x.block ≠ g) := ha
  have hl : Hid (m = l.length) := h.len
  have HR : Hid (RoomE w base g m cap l') := hR
  have hfit := hR.fits
  obtain ⟨s0, hs0⟩ : ∃ s0, s0 = w.heap.size := ⟨_, rfl⟩
  have HS0 : Hid (s0 = w.heap.size ∧ g < w.heap.size) := ⟨hs0, hR.lt⟩
  clear h hR ha
  unfold dagV
  go_enter Try.func11, Try.ntmps11
  go_wp2_with fail
  rw [← hs0]
  clear hs0
  go_loopw [4] (fun s4 wr => ∃ k : Nat, s4 = .int .i64 k ∧ k ≤ m ∧ wr.heap[s0]? = some (.cells #[.int .i64 n, .slice (some ⟨g, 0, none⟩) m cap] 24 (0, 0)) ∧ wr.heap[s0 + 1]? = some (.cells #[.int .i64 n2, .slice a m c] 24 (0, 0)) ∧
      RoomE wr base g m cap (l.take k ++ l'.drop k) ∧ Keeps (· = g) w wr) (fun s4 _ => m - (intOf s4).toNat)
  case atStart =>
    have e := HS0.out.1
    refine ⟨0, rfl, Nat.zero_le _, blk_old2 (blk_new _ _ _ e.symm) _, blk_new _ _ _ (by simp; omega), ?_, (((Keeps.refl (· = g) w).andAlloc _).andAlloc _)⟩
    simpa using HR.out.kept (((Keeps.refl None w).andAlloc _).andAlloc _) (fun f => f)
  case round =>
    obtain ⟨k, rfl, hk, b0, b1, hroom, hkp⟩ := hrel
    have d1 := (blk_cell b0 1).trans rfl
    have x1 := (blk_cell b1 1).trans rfl
    by_cases hkn : k < m
    · obtain ⟨b, off, e, rfl, he, hat⟩ := (HS.out.kept hkp (fun x ex _ => HA.out (by omega) x ex)).at hkn
      have h2 := hl.out
      have h3 := HR.out.len
      obtain ⟨y, hy⟩ : ∃ y, (l.take k ++ l'.drop k ++ [(⟨-77, 0⟩ : Ed)])[k]? = some y := ⟨_, List.getElem?_eq_getElem (by simp; omega)⟩
      obtain ⟨z0, z1, hf⟩ := hroom.at hy
      have f0 := hf (k * 2)
      have f1 := hf (k * 2 + 1)
      have m0 : ¬ m = 0 := by omega
      have i1 : (k : Int) < (m : Int) := by omega
      have hkS := keeps_set2 wr g (k * 2) e
      have hg := HS0.out
      have HN : Hid ((set2 wr g (k * 2) e).heap[s0]? = some (.cells #[.int .i64 n, .slice (some ⟨g, 0, none⟩) m cap] 24 (0, 0)) ∧ (set2 wr g (k * 2) e).heap[s0 + 1]? = some (.cells #[.int .i64 n2, .slice (some ⟨b, off, none⟩) m c] 24 (0, 0)) ∧
          RoomE (set2 wr g (k * 2) e) base g m cap (l.take (k + 1) ++ l'.drop (k + 1)) ∧ Keeps (· = g) w (set2 wr g (k * 2) e)) := by
        have := hroom.put hkn e
        rw [take_setE he (by omega)] at this
        exact ⟨blk_kept b0 hkS (by omega), blk_kept b1 hkS (by omega), this, hkp.trans hkS (fun _ e _ => e)⟩
      have e0 := hat.f
      have e1 := hat.t
      obtain ⟨ef, et⟩ := e
      obtain ⟨yf, yt⟩ := y
      simp only at e0 e1 z0 z1
      unfold set2 at HN
      simp only at HN
      clear hroom hkp hy hf h2 h3 hkS hg b0 b1 he hat HS
      go_wp2_with fail
      go_region
      all_goals go_wp2_with fail
      all_goals (refine ⟨⟨k + 1, by go_num, by omega, ?_⟩, by simp [intOf]; omega⟩; first | exact HN.out | exact drew4 HN.out | trace_state)
    · have i1 : ¬ (k : Int) < (m : Int) := by omega
      obtain rfl : k = m := by omega
      have HN : Hid (RoomE wr base g k cap l ∧ Keeps (· = g) w wr) := by
        have h2 := hl.out
        have h3 := HR.out.len
        rw [List.take_of_length_le (by omega), List.drop_eq_nil_of_le (by omega), List.append_nil] at hroom
        exact ⟨hroom, hkp⟩
      clear hroom hkp
      go_wp2_with fail
      go_end0
      exact ⟨rfl, HN.out⟩
theorem marked_any (n : Int) (base g m cap : Nat) (l : List Ed) (w : World) (hR : RoomE w base g m cap l) (hs : m * 16 ≤ 140737488351232) :
    Calls Try.prog 14 #[dagV n (some ⟨g, 0, none⟩) m cap] w fun e w' => e = .returned (.bool true) ∧ Keeps None w w' := by
  have hf := hR.fits
  have hR2 := hR.kept (keeps1 w (.cells #[.int .i64 n, .slice (some ⟨g, 0, none⟩) m cap] 24)) (fun f => f)
  obtain ⟨z0, z1, _⟩ := hR2.at (k := m) (x := (⟨-77, 0⟩ : Ed)) (by rw [hR.len]; simp)
  simp only at z0 z1
  have f1 : (m : Int) + 1 ≤ (cap : Int) := by omega
  have f2 : (m : Int) < (m : Int) + 1 := by omega
  clear hR hR2
  unfold dagV
  go_enter Try.func14, Try.ntmps14
  go_wp2_with fail
  go_ret
  exact ⟨rfl, keeps1 _ _⟩
set_option maxHeartbeats 1600000 in
theorem sameEdges_any (a a2 : Option Addr) (m c c2 : Nat) (l : List Ed) (w : World) (h : SeenE w a m l) (h2 : SeenE w a2 m l) (hs : m * 16 ≤ 140737488351232) :
    Calls Try.prog 15 #[.slice a m c, .slice a2 m c2] w fun e w' => e = .returned (.bool true) ∧ Keeps None w w' := by
  have HS : Hid (SeenE w a m l ∧ SeenE w a2 m l) := ⟨h, h2⟩
  clear h h2
  go_enter Try.func15, Try.ntmps15
  go_wp2_with fail
  go_loopw [5] (fun s5 wr => ∃ k : Nat, s5 = .int .i64 k ∧ k ≤ m ∧ Keeps None w wr) (fun s5 _ => m - (intOf s5).toNat)
  case atStart => exact ⟨0, rfl, Nat.zero_le _, Keeps.refl _ _⟩
  case round =>
    obtain ⟨k, rfl, hk, hkp⟩ := hrel
    by_cases hkn : k < m
    · obtain ⟨b, off, e, rfl, he, hat⟩ := (HS.out.1.more hkp).at hkn
      obtain ⟨b2, off2, e2, rfl, he2, hat2⟩ := (HS.out.2.more hkp).at hkn
      rw [he] at he2
      injection he2 with he2
      subst he2
      obtain ⟨ef, et⟩ := e
      have e0 := hat.f
      have e1 := hat.t
      have e2 := hat2.f
      have e3 := hat2.t
      simp only at e0 e1 e2 e3
      have m0 : ¬ m = 0 := by omega
      have i1 : (k : Int) < (m : Int) := by omega
      have HN : Hid (Keeps None w wr) := hkp
      clear hkp he hat hat2 HS
      go_wp2_with fail
      go_quiet (fail)
      all_goals go_wp2_with fail
      all_goals first | (refine ⟨⟨k + 1, by go_num, by omega, ?_⟩, by simp [intOf]; omega⟩; exact HN.out.trans (Keeps.drewN None _ _) (fun _ f _ => f))
    · have i1 : ¬ (k : Int) < (m : Int) := by omega
      go_wp2_with fail
      go_ret
      exact ⟨rfl, hkp⟩
end Go.Proofs.Ytnhoedodnbifdaa
