import Derived.Test.YtheginjjncnheaaHiCut
import Derived.Deep.QuietTactic
import Derived.BigQuiet
/-! A list with other numbers and a mark behind it; the calls written back into it; two lists that hold the same. -/
namespace Go.Proofs.Ytheginjjncnheaa
open Go.RowKit Go.HeapKit

def markC : Cl := ⟨-77, 0, 0, 0, 0, 0, 0⟩
/-- A list of the law's own, with a mark in the room behind it. -/
structure Room (w : World) (base g n cap : Nat) (l : List Cl) : Prop where
  len : n = l.length
  row : w.ownsRow base 49 7 (.slice (some ⟨g, 0, none⟩) (n + 1) cap) (n + 1) (clVals (l ++ [markC]))
section
variable {w w' : World} {base g n cap : Nat} {l : List Cl}
theorem Room.lt (h : Room w base g n cap l) : g < w.heap.size := own_lt h.row rfl
theorem Room.low (h : Room w base g n cap l) : base ≤ g := row_low h.row rfl
theorem Room.kept {S : Nat → Prop} (h : Room w base g n cap l) (hk : Keeps S w w') (hS : ¬ S g) : Room w' base g n cap l :=
  ⟨h.len, row_kept h.row hk (fun k e => by simp [Value.ownBlock] at e; subst e; exact hS)⟩
theorem Room.seen (h : Room w base g n cap l) : Seen w (some ⟨g, 0, none⟩) n l := by
  refine ⟨h.len, fun h0 => ⟨g, 0, rfl, h.lt, fun k x hx => ?_⟩⟩
  obtain ⟨b, off, e, hb, hc⟩ := (Seen.of_row (by simp [h.len]) h.row).ex (by omega)
  injection e with e
  injection e with e1 e2
  subst e1 e2
  exact hc k x (by rw [List.getElem?_append_left (List.getElem?_eq_some_iff.1 hx).1]; exact hx)
theorem Room.fits (h : Room w base g n cap l) : n + 1 ≤ cap := by
  rcases h.row.2 with ⟨e, _⟩ | ⟨g', cap', cur, e, _, _, hn, _⟩
  · cases e
  · injection e with _ _ e; subst e; exact hn
theorem Room.mark (h : Room w base g n cap l) : C7 w g (n * 7) markC := by
  obtain ⟨g', e, _, _, _, hc, _⟩ := row_elem (k := n) (x := markC) h.row (by rw [h.len]; simp)
  injection e with e
  injection e with e
  subst e
  exact hc
theorem Room.put (h : Room w base g n cap l) {k : Nat} (hk : k < n) (x : Cl) : Room (set7 w g (k * 7) x) base g n cap (l.set k x) := by
  refine ⟨by simpa using h.len, ?_⟩
  have := row_set7 h.row k (by simp; have := h.len; omega) x
  rwa [List.set_append_left _ _ (by have := h.len; omega)] at this
theorem Room.free (h : Room w base g n cap l) (i : Nat) : w.frozen? ⟨g, i, none⟩ = false := by
  obtain ⟨cur, hc⟩ := own_block h.row rfl
  exact blk_free hc i
end

set_option maxHeartbeats 1600000 in
theorem moved_ok (a : Option Addr) (n c : Nat) (l : List Cl) (w : World) (hS : Seen w a n l) (hn : (n + 1) * 56 ≤ 140737488355328) :
    Calls Try.prog 11 #[.slice a n c] w fun e w' => ∃ g cap l', e = .returned (.slice (some ⟨g, 0, none⟩) n cap) ∧ Room w' w.heap.size g n cap l' ∧ Keeps None w w' := by
  have HH : Hid (Seen w a n l) := hS
  clear hS
  go_enter Try.func11, Try.ntmps11
  go_wp2_with fail
  go_loopw [3, 4, 5] (fun s i _ wr => ∃ k : Nat, k ≤ n ∧ i = .int .i64 k ∧ (∃ l' : List Cl, l'.length = k ∧ wr.ownsRow w.heap.size 49 7 s k (clVals l')) ∧ Keeps None w wr) (fun _ i _ _ => n - (intOf i).toNat)
  case atStart => exact ⟨0, Nat.zero_le _, rfl, ⟨[], rfl, row_nil _ _ _ _⟩, Keeps.refl _ _⟩
  case round =>
    obtain ⟨k, hk, rfl, ⟨l', hl', hrow⟩, hkp⟩ := hrel
    obtain ⟨sa, cs, rfl⟩ := row_shape hrow
    by_cases hkn : k < n
    · have hS := HH.out.more hkp
      obtain ⟨b, off, rfl, hb, hc⟩ := hS.ex (by omega)
      obtain ⟨x, hx⟩ : ∃ x, l[k]? = some x := ⟨l[k]'(by have := HH.out.len; omega), by simp⟩
      obtain ⟨y0, y1, y2, y3, y4, y5, y6⟩ := hc k x hx
      have i1 : (k : Int) < (n : Int) := by omega
      clear hc hS hx
      obtain ⟨g, cp, w2, hr, ho, hk2, hm⟩ := call_more w.heap.size (.slice sa k cs) l' ⟨x.who, x.kind, x.arg, wrap64 (x.beg - 1), x.fin, x.code, wrap64 (x.v + 1)⟩ k 27 (wr.alloc (.cells #[.int .i64 x.who, .int .i64 x.kind, .int .i64 x.arg, .int .i64 (wrap64 (x.beg - 1)), .int .i64 x.fin, .int .i64 x.code, .int .i64 (wrap64 (x.v + 1))] 49)) hl'.symm (hrow.alloc _) (by have := hkp.size; simp; omega) (by omega)
      have HN : Hid ((∃ l' : List Cl, l'.length = k + 1 ∧ w2.ownsRow w.heap.size 49 7 (.slice (some ⟨g, 0, none⟩) (k + 1) cp) (k + 1) (clVals l')) ∧ Keeps None w w2) :=
        ⟨⟨_, by simp [hl'], ho⟩, (hkp.andAlloc _).trans hk2 (fun i e hi => by have := row_low hrow e; omega)⟩
      simp only [World.size_alloc] at hr
      clear hrow hkp ho hk2 hm hl'
      go_wp2_with (at_builtin; refine wpList_append_run rfl (.tmp 24) (.tmp 26) 27 27 rfl rfl rfl hr ?_)
      exact ⟨⟨k + 1, by omega, by go_num, HN.out⟩, by simp [intOf]; omega⟩
    · have hkn2 : k = n := by omega
      subst hkn2
      obtain ⟨g, cp, w2, hr, ho, hk2, hm⟩ := call_more w.heap.size (.slice sa k cs) l' markC k 27 wr hl'.symm hrow hkp.size (by omega)
      have hR : Room w2 w.heap.size g k cp l' := ⟨hl'.symm, ho⟩
      have hcap := hR.fits
      have HN : Hid (Room w2 w.heap.size g k cp l' ∧ Keeps None w w2) := ⟨hR, hkp.trans hk2 (fun i e hi => by have := row_low hrow e; omega)⟩
      simp only [markC] at hr
      clear hrow hkp ho hk2 hm hl' hR
      go_wp2_with (at_builtin; refine wpList_append_run rfl (.tmp 28) (.tmp 30) 27 27 rfl rfl rfl hr ?_)
      go_ret
      exact ⟨_, _, _, rfl, HN.out⟩

theorem take_set {l l2 : List Cl} {k : Nat} {x : Cl} (hx : l[k]? = some x) (hl : l2.length = l.length) : (l.take k ++ l2.drop k).set k x = l.take (k + 1) ++ l2.drop (k + 1) := by
  have hk := (List.getElem?_eq_some_iff.1 hx).1
  rw [take_more hx, List.set_append_right _ _ (by simp; omega), List.append_assoc]
  congr 1
  rw [show k - (l.take k).length = 0 by simp; omega]
  rw [List.drop_eq_getElem_cons (show k < l2.length by omega)]
  rfl

set_option maxHeartbeats 1600000 in
theorem back_ok (a : Option Addr) (n c base g cap : Nat) (l l2 : List Cl) (w : World) (hR : Room w base g n cap l2) (hS : Seen w a n l) (hne : 0 < n → ∀ b, blockOf a = some b → b ≠ g) (hn : (n + 1) * 56 ≤ 140737488355328) :
    Calls Try.prog 12 #[.slice (some ⟨g, 0, none⟩) n cap, .slice a n c] w fun e w' => e = .returned (.tuple #[]) ∧ Room w' base g n cap l ∧ Keeps (· = g) w w' := by
  have HH : Hid (Seen w a n l) := hS
  have HR : Hid (Room w base g n cap l2) := hR
  have HE : Hid (0 < n → ∀ b, blockOf a = some b → b ≠ g) := hne
  clear hS hR hne
  go_enter Try.func12, Try.ntmps12
  go_wp2_with fail
  go_loopw [4] (fun i wr => ∃ k : Nat, k ≤ n ∧ i = .int .i64 k ∧ Room wr base g n cap (l.take k ++ l2.drop k) ∧ Keeps (· = g) w wr) (fun i _ => n - (intOf i).toNat)
  case atStart => exact ⟨0, Nat.zero_le _, rfl, by simpa using HR.out, Keeps.refl _ _⟩
  case round =>
    obtain ⟨k, hk, rfl, hroom, hkp⟩ := hrel
    by_cases hkn : k < n
    · have hS := HH.out.kept hkp (fun h0 b e _ e2 => HE.out h0 b e e2)
      have h1 := HH.out.len
      have h2 := HR.out.len
      obtain ⟨b, off, rfl, hb, hc⟩ := hS.ex (by omega)
      obtain ⟨x, hx⟩ : ∃ x, l[k]? = some x := ⟨l[k]'(by omega), by simp⟩
      obtain ⟨y0, y1, y2, y3, y4, y5, y6⟩ := hc k x hx
      obtain ⟨y, hy⟩ : ∃ y, (l.take k ++ l2.drop k ++ [markC])[k]? = some y := ⟨_, List.getElem?_eq_getElem (by simp; omega)⟩
      obtain ⟨g', e, _, _, _, ⟨z0, z1, z2, z3, z4, z5, z6⟩, hf⟩ := row_elem hroom.row hy
      injection e with e
      injection e with e
      subst e
      have f0 := hf (k * 7)
      have f1 := hf (k * 7 + 1)
      have f2 := hf (k * 7 + 2)
      have f3 := hf (k * 7 + 3)
      have f4 := hf (k * 7 + 4)
      have f5 := hf (k * 7 + 5)
      have f6 := hf (k * 7 + 6)
      have i1 : (k : Int) < (n : Int) := by omega
      have HN : Hid (Room (set7 wr g (k * 7) x) base g n cap (l.take (k + 1) ++ l2.drop (k + 1)) ∧ Keeps (· = g) w (set7 wr g (k * 7) x)) := by
        have := hroom.put hkn x
        rw [take_set hx (by omega)] at this
        exact ⟨this, hkp.trans (keeps_set7 wr g (k * 7) x) (fun _ e _ => e)⟩
      clear hc hS hx hroom hkp hy hf HE HR h1 h2
      go_wp2
      go_roundw
      case rel => exact ⟨k + 1, by omega, by go_num, HN.out⟩
      case measure => simp [intOf]; omega
    · have hkn2 : k = n := by omega
      subst hkn2
      have HN : Hid (Room wr base g k cap l ∧ Keeps (· = g) w wr) := by
        have h1 := HH.out.len
        have h2 := HR.out.len
        rw [List.take_of_length_le (by omega), List.drop_eq_nil_of_le (by omega), List.append_nil] at hroom
        exact ⟨hroom, hkp⟩
      clear hroom hkp HE HR
      go_wp2
      go_end0
      exact ⟨rfl, HN.out⟩

theorem same_ok (aa ab : Option Addr) (n ca cb : Nat) (l : List Cl) (w : World) (ha : Seen w aa n l) (hb : Seen w ab n l) (hz : (n + 1) * 56 ≤ 140737488355328 + 5600) :
    Calls Try.prog 13 #[.slice aa n ca, .slice ab n cb] w fun e w' => e = .returned (.bool true) ∧ ∃ m, w' = w.drewN m := by
  have HH : Hid (Seen w aa n l ∧ Seen w ab n l) := ⟨ha, hb⟩
  clear ha hb
  go_enter Try.func13, Try.ntmps13
  go_wp2_with fail
  go_loopw [5] (fun i wr => ∃ k : Nat, k ≤ n ∧ i = .int .i64 k ∧ ∃ m, wr = w.drewN m) (fun i _ => n - (intOf i).toNat)
  case atStart => exact ⟨0, Nat.zero_le _, rfl, 0, rfl⟩
  case round =>
    obtain ⟨k, hk, rfl, m, rfl⟩ := hrel
    by_cases hkn : k < n
    · obtain ⟨ga, oa, rfl, -, hca⟩ := HH.out.1.ex (by omega)
      obtain ⟨gb, ob, rfl, -, hcb⟩ := HH.out.2.ex (by omega)
      obtain ⟨x, hx⟩ : ∃ x, l[k]? = some x := ⟨l[k]'(by have := HH.out.1.len; omega), by simp⟩
      obtain ⟨y0, y1, y2, y3, y4, y5, y6⟩ := hca k x hx
      obtain ⟨z0, z1, z2, z3, z4, z5, z6⟩ := hcb k x hx
      have i1 : (k : Int) < (n : Int) := by omega
      clear hx hca hcb HH
      obtain ⟨x0, x1, x2, x3, x4, x5, x6⟩ := x
      go_wp2
      go_quiet (fail)
      go_wp2
      go_roundw
      case rel => exact ⟨k + 1, by omega, by go_num, _, rfl⟩
      case measure => simp [intOf]; omega
    · clear HH
      go_wp2
      go_ret
      exact ⟨rfl, _, rfl⟩

theorem marked_ok (n base g cap : Nat) (l : List Cl) (w : World) (hR : Room w base g n cap l) (hn : (n + 1) * 56 ≤ 140737488355328) :
    Calls Try.prog 14 #[.slice (some ⟨g, 0, none⟩) n cap] w fun e w' => e = .returned (.bool true) ∧ w' = w := by
  have hcap := hR.fits
  obtain ⟨y0, y1, y2, y3, y4, y5, y6⟩ := hR.mark
  simp only [markC] at y0 y1 y2 y3 y4 y5 y6
  clear hR
  go_enter Try.func14, Try.ntmps14
  go_wp2
  go_ret
  exact ⟨rfl, rfl⟩
end Go.Proofs.Ytheginjjncnheaa
