import Derived.Test.YtheginjjncnheaaHiAsked
import Derived.Test.YtheginjjncnheaaHiRoom
import Derived.Test.YtheginjjncnheaaHiGrid
/-! Todos: lists of them in memory; whether they can be played. -/
namespace Go.Proofs.Ytheginjjncnheaa
set_option linter.unusedVariables false
set_option maxRecDepth 20000
open Go.RowKit Go.HeapKit

def tdVals (l : List (Int × Int)) : List Value := l.flatMap (fun t => [Value.int .i64 t.1, .int .i64 t.2])
theorem tdVals_length (l : List (Int × Int)) : (tdVals l).length = l.length * 2 := by
  induction l with
  | nil => rfl
  | cons x l ih => simp only [tdVals, List.flatMap_cons, List.length_append, List.length_cons, List.length_nil] at ih ⊢; omega
theorem tdVals_append (a b : List (Int × Int)) : tdVals (a ++ b) = tdVals a ++ tdVals b := by simp [tdVals]
theorem tdVals_at (l : List (Int × Int)) (k : Nat) (x : Int × Int) (h : l[k]? = some x) : (tdVals l)[k * 2]? = some (.int .i64 x.1) ∧ (tdVals l)[k * 2 + 1]? = some (.int .i64 x.2) := by
  induction l generalizing k with
  | nil => simp at h
  | cons y l ih =>
    have e : tdVals (y :: l) = [Value.int .i64 y.1, .int .i64 y.2] ++ tdVals l := rfl
    rw [e]
    cases k with
    | zero => simp at h; subst h; simp
    | succ k =>
      have := ih k (by simpa using h)
      rw [show (k + 1) * 2 = k * 2 + 2 by omega]
      simpa using this
/-- A list of todos that can be read. -/
structure SeenT (w : World) (a : Option Addr) (n : Nat) (l : List (Int × Int)) : Prop where
  len : n = l.length
  ex : 0 < n → ∃ b off, a = some ⟨b, off, none⟩ ∧ b < w.heap.size ∧ ∀ k x, l[k]? = some x → w.cell? ⟨b, off + k * 2, none⟩ = some (.int .i64 x.1) ∧ w.cell? ⟨b, off + k * 2 + 1, none⟩ = some (.int .i64 x.2)
theorem SeenT.kept {w w' : World} {a : Option Addr} {n : Nat} {l : List (Int × Int)} (h : SeenT w a n l) {S : Nat → Prop} (hk : Keeps S w w') (hS : 0 < n → ∀ b, blockOf a = some b → b < w.heap.size → ¬ S b) : SeenT w' a n l := by
  refine ⟨h.len, fun h0 => ?_⟩
  obtain ⟨b, off, rfl, hb, hc⟩ := h.ex h0
  exact ⟨b, off, rfl, Nat.lt_of_lt_of_le hb hk.size, fun k x hx => ⟨hk.cell (hc k x hx).1 (hS h0 b rfl hb), hk.cell (hc k x hx).2 (hS h0 b rfl hb)⟩⟩
theorem SeenT.more {w w' : World} {a : Option Addr} {n : Nat} {l : List (Int × Int)} (h : SeenT w a n l) (hk : Keeps None w w') : SeenT w' a n l := h.kept hk (fun _ _ _ _ f => f)
theorem SeenT.low {w : World} {a : Option Addr} {n : Nat} {l : List (Int × Int)} (h : SeenT w a n l) (h0 : 0 < n) {b : Nat} (hb : blockOf a = some b) : b < w.heap.size := by
  obtain ⟨b', off, rfl, hlt, _⟩ := h.ex h0
  simp [blockOf] at hb
  omega
theorem Try.infoTodo : (Try.prog.info? 26).map (fun i => (i.zero, i.size, i.bytes)) = some (some (.agg #[.int .i64 0, .int .i64 0]), 2, 16) := by kernel_rfl
/-- An element of a row of todos lies so, and may be written. -/
theorem todo_elem {w : World} {base : Nat} {a : Option Addr} {n c : Nat} {l : List (Int × Int)} {k : Nat} {x : Int × Int} (h : w.ownsRow base 26 2 (.slice a n c) n (tdVals l)) (hx : l[k]? = some x) :
    ∃ g, a = some ⟨g, 0, none⟩ ∧ base ≤ g ∧ g < w.heap.size ∧ n ≤ c ∧ w.cell? ⟨g, k * 2, none⟩ = some (.int .i64 x.1) ∧ w.cell? ⟨g, k * 2 + 1, none⟩ = some (.int .i64 x.2) ∧ ∀ i, w.frozen? ⟨g, i, none⟩ = false := by
  have hlen : l.length * 2 = n * 2 := by have := h.1; rw [tdVals_length] at this; exact this
  have hk := (List.getElem?_eq_some_iff.1 hx).1
  rcases h.2 with ⟨_, h1⟩ | ⟨g, cap, cur, hv, hbg, hg, hnc, hcm, hcs, htake⟩
  · omega
  · injection hv with e1 e2 e3
    subst e1 e3
    have hcell : ∀ j u, (tdVals l)[j]? = some u → w.cell? ⟨g, j, none⟩ = some u := by
      intro j u this
      rw [blk_cell hg]
      rw [← htake, List.getElem?_take] at this
      split at this
      · simpa using this
      · cases this
    exact ⟨g, rfl, hbg, (Array.getElem?_eq_some_iff.1 hg).1, hnc, hcell _ _ (tdVals_at l k x hx).1, hcell _ _ (tdVals_at l k x hx).2, fun i => blk_free hg i⟩
/-- 'append(l, t)' of a todo. -/
theorem todo_more (base : Nat) (s : Value) (l : List (Int × Int)) (x : Int × Int) (n ty g0 : Nat) (w : World) (hn : n = l.length) (h : w.ownsRow base 26 2 s n (tdVals l)) (hb : base ≤ w.heap.size) (hlen : (n + 1) * 16 ≤ 140737488355328)
    (hg0 : w.heap[g0]? = some (.cells #[.int .i64 x.1, .int .i64 x.2] 26 (0, 0))) :
    ∃ g cap w', (Builtin.append_ #[22, 22] ty #[s, .slice (some ⟨g0, 0, none⟩) 1 1]).run Try.prog w = .ok (.slice (some ⟨g, 0, none⟩) (n + 1) cap) w' ∧
      w'.ownsRow base 26 2 (.slice (some ⟨g, 0, none⟩) (n + 1) cap) (n + 1) (tdVals (l ++ [x])) ∧ Keeps (fun k => s.ownBlock = some k) w w' ∧ (s.ownBlock = some g ∨ w.heap.size ≤ g) := by
  obtain ⟨i0, hi, hz0, hz1, hz2⟩ := info_parts Try.infoTodo
  obtain ⟨v', w1, hr, ho, hgr, hm, -⟩ := run_append_moved (P := Try.prog) w base 22 ty 26 i0 _ 2 16 Try.underlying22 hi hz0 hz1 hz2 rfl (by decide) s n _ h
    ⟨g0, 0, none⟩ 1 1 [.int .i64 x.1, .int .i64 x.2] rfl (by
      intro j u hu
      rw [show (⟨g0, 0, none⟩ : Addr).add j = ⟨g0, j, none⟩ by unfold Addr.add; split <;> simp_all, blk_cell hg0]
      simpa using hu) (by
      intro u hu
      simp at hu
      rcases hu with rfl | rfl <;> rfl) (by unfold maxLen; omega) hlen hb
  obtain ⟨g, cap, rfl⟩ : ∃ g cap, v' = .slice (some ⟨g, 0, none⟩) (n + 1) cap := by
    rcases ho.2 with ⟨_, h0⟩ | ⟨b, cap, cur, rfl, _⟩
    · omega
    · exact ⟨b, cap, rfl⟩
  refine ⟨g, cap, w1, hr, by rw [tdVals_append]; exact ho, (Keeps.refl _ w).andGrown hgr (fun k e => .inl e), ?_⟩
  rcases hm with hm | ⟨g', e, hg⟩
  · exact .inl (hm.symm.trans rfl)
  · simp [Value.ownBlock] at e; exact .inr (by omega)
def set2 (w : World) (g o : Nat) (x : Int × Int) : World := (w.setCell ⟨g, o, none⟩ (.int .i64 x.1)).setCell ⟨g, o + 1, none⟩ (.int .i64 x.2)
theorem tdVals_set (l : List (Int × Int)) (k : Nat) (x : Int × Int) (hk : k < l.length) : ((tdVals l).set (k * 2) (.int .i64 x.1)).set (k * 2 + 1) (.int .i64 x.2) = tdVals (l.set k x) := by
  induction l generalizing k with
  | nil => simp at hk
  | cons y l ih =>
    have e : tdVals (y :: l) = [Value.int .i64 y.1, .int .i64 y.2] ++ tdVals l := rfl
    cases k with
    | zero => rfl
    | succ k =>
      have h1 := ih k (by simpa using hk)
      have e2 : tdVals ((y :: l).set (k + 1) x) = [Value.int .i64 y.1, .int .i64 y.2] ++ tdVals (l.set k x) := rfl
      rw [e, e2, ← h1, show (k + 1) * 2 = k * 2 + 2 by omega]
      rfl
theorem row_set2 {w : World} {base : Nat} {g n cap : Nat} {l : List (Int × Int)} (h : w.ownsRow base 26 2 (.slice (some ⟨g, 0, none⟩) n cap) n (tdVals l)) (k : Nat) (hk : k < l.length) (x : Int × Int) :
    (set2 w g (k * 2) x).ownsRow base 26 2 (.slice (some ⟨g, 0, none⟩) n cap) n (tdVals (l.set k x)) := by
  rw [← tdVals_set l k x hk]
  exact row_set (row_set h _ _) _ _
theorem keeps_set2 (w : World) (g o : Nat) (x : Int × Int) : Keeps (· = g) w (set2 w g o x) := keeps_one (keeps_one (Keeps.refl _ w) _) _
/-- A list of todos of the law's own, with a mark in the room behind it. -/
structure RoomT (w : World) (base g n cap : Nat) (l : List (Int × Int)) : Prop where
  len : n = l.length
  row : w.ownsRow base 26 2 (.slice (some ⟨g, 0, none⟩) (n + 1) cap) (n + 1) (tdVals (l ++ [(-77, 0)]))
section
variable {w w' : World} {base g n cap : Nat} {l : List (Int × Int)}
theorem RoomT.lt (h : RoomT w base g n cap l) : g < w.heap.size := own_lt h.row rfl
theorem RoomT.low (h : RoomT w base g n cap l) : base ≤ g := row_low h.row rfl
theorem RoomT.kept {S : Nat → Prop} (h : RoomT w base g n cap l) (hk : Keeps S w w') (hS : ¬ S g) : RoomT w' base g n cap l :=
  ⟨h.len, row_kept h.row hk (fun k e => by simp [Value.ownBlock] at e; subst e; exact hS)⟩
theorem RoomT.at (h : RoomT w base g n cap l) {k : Nat} {x : Int × Int} (hx : (l ++ [(-77, 0)])[k]? = some x) : w.cell? ⟨g, k * 2, none⟩ = some (.int .i64 x.1) ∧ w.cell? ⟨g, k * 2 + 1, none⟩ = some (.int .i64 x.2) ∧ ∀ i, w.frozen? ⟨g, i, none⟩ = false := by
  obtain ⟨g', e, _, _, _, h1, h2, h3⟩ := todo_elem h.row hx
  injection e with e
  injection e with e
  subst e
  exact ⟨h1, h2, h3⟩
theorem RoomT.seen (h : RoomT w base g n cap l) : SeenT w (some ⟨g, 0, none⟩) n l := by
  refine ⟨h.len, fun h0 => ⟨g, 0, rfl, h.lt, fun k x hx => ?_⟩⟩
  obtain ⟨h1, h2, _⟩ := h.at (k := k) (x := x) (by rw [List.getElem?_append_left (List.getElem?_eq_some_iff.1 hx).1]; exact hx)
  rw [Nat.zero_add]
  exact ⟨h1, h2⟩
theorem RoomT.fits (h : RoomT w base g n cap l) : n + 1 ≤ cap := by
  rcases h.row.2 with ⟨e, _⟩ | ⟨g', cap', cur, e, _, _, hn, _⟩
  · cases e
  · injection e with _ _ e; subst e; exact hn
theorem RoomT.mark (h : RoomT w base g n cap l) : w.cell? ⟨g, n * 2, none⟩ = some (.int .i64 (-77)) := (h.at (k := n) (x := (-77, 0)) (by rw [h.len]; simp)).1
theorem RoomT.put (h : RoomT w base g n cap l) {k : Nat} (hk : k < n) (x : Int × Int) : RoomT (set2 w g (k * 2) x) base g n cap (l.set k x) := by
  refine ⟨by simpa using h.len, ?_⟩
  have := row_set2 h.row k (by simp; have := h.len; omega) x
  rwa [List.set_append_left _ _ (by have := h.len; omega)] at this
end
theorem grid_todos {w : World} {ao : Option Addr} {len cap : Nat} {g : List (List Int)} (h : IsGrid 2 w ao len cap g) : len ≤ cap ∧ SeenT w ao len ((g.take len).map (fun ns => (ns.getD 0 0, ns.getD 1 0))) := by
  rcases h with ⟨rfl, rfl, rfl, rfl⟩ | ⟨x, rfl, hl, hm, hlen, hrow⟩
  · exact ⟨Nat.le_refl _, rfl, fun h => by omega⟩
  · refine ⟨hl, by simp; omega, fun hpos => ?_⟩
    have hspot : x.spot = none := by
      obtain ⟨ns, h1, h2, h3, h4⟩ := hrow 0 (by omega)
      match ns, h2 with
      | m0 :: _, _ =>
        have := h4 0 m0 rfl
        rw [Nat.zero_mul] at this
        have e : (x.add 0).add 0 = x := by unfold Addr.add; simp
        rw [e] at this
        exact spot_of_cell this
    obtain ⟨b0, off, sp⟩ := x
    simp only at hspot
    subst hspot
    have hat : ∀ i j, (((⟨b0, off, none⟩ : Addr).add (i * 2)).add j) = ⟨b0, off + i * 2 + j, none⟩ := by
      intro i j
      unfold Addr.add
      split <;> split <;> simp_all
    have hcell : ∀ i, i < len → ∀ j, j < 2 → w.cell? ⟨b0, off + i * 2 + j, none⟩ = some (.int .i64 ((g.getD i []).getD j 0)) := by
      intro i hi j hj
      obtain ⟨ns, h1, h2, h3, h4⟩ := hrow i (by omega)
      have hg : g.getD i [] = ns := by simp [List.getD, h1]
      rw [hg, ← hat i j]
      exact h4 j _ (by simp [List.getD, h2, hj])
    refine ⟨b0, off, rfl, lt_of_cell (hcell 0 hpos 0 (by decide)), fun k x hx => ?_⟩
    have hk : k < len := by have := (List.getElem?_eq_some_iff.1 hx).1; simp at this; omega
    have hx2 : x = ((g.getD k []).getD 0 0, (g.getD k []).getD 1 0) := by
      rw [List.getElem?_map, List.getElem?_take, if_pos hk] at hx
      obtain ⟨ns, h1, _⟩ := hrow k (by omega)
      rw [h1] at hx
      simp at hx
      rw [← hx]
      simp [List.getD, h1]
    subst hx2
    exact ⟨hcell k hk 0 (by decide), hcell k hk 1 (by decide)⟩
theorem take_setT {α : Type} {l l2 : List α} {k : Nat} {x : α} (hx : l[k]? = some x) (hl : l2.length = l.length) : (l.take k ++ l2.drop k).set k x = l.take (k + 1) ++ l2.drop (k + 1) := by
  have hk := (List.getElem?_eq_some_iff.1 hx).1
  rw [take_more hx, List.set_append_right _ _ (by simp; omega), List.append_assoc]
  congr 1
  rw [show k - (l.take k).length = 0 by simp; omega]
  rw [List.drop_eq_getElem_cons (show k < l2.length by omega)]
  rfl

theorem mostFits_ok (most : Int) (w : World) : Calls Try.prog 30 #[.int .i64 most] w fun e w' => e = .returned (.bool (decide (1 ≤ most ∧ most ≤ 4096))) ∧ w' = w := by
  by_cases h1 : 1 ≤ most
  · by_cases h2 : most ≤ 4096
    · rw [decide_eq_true ⟨h1, h2⟩]
      go_enter Try.func30, Try.ntmps30
      go_wp2
      go_ret
      exact ⟨rfl, rfl⟩
    · rw [decide_eq_false (fun e => h2 e.2)]
      go_enter Try.func30, Try.ntmps30
      go_wp2
      go_ret
      exact ⟨rfl, rfl⟩
  · rw [decide_eq_false (fun e => h1 e.1)]
    go_enter Try.func30, Try.ntmps30
    go_wp2
    go_ret
    exact ⟨rfl, rfl⟩

/-- The error of a list of todos. -/
def kindErr (l : List (Int × Int)) : Int := if l.all todoOk then 0 else 31
theorem kindErr_ok {l : List (Int × Int)} (h : l.all todoOk = true) : kindErr l = 0 := by unfold kindErr; rw [h]; rfl
theorem kindErr_bad {l : List (Int × Int)} (h : l.all todoOk = false) : kindErr l = 31 := by unfold kindErr; rw [h]; rfl
def errS (l : List (Int × Int)) (most : Int) : Int := if 40 < l.length then 2 else if 1 ≤ most ∧ most ≤ 4096 then kindErr l else 3

theorem all_take_more {l : List (Int × Int)} {k : Nat} {x : Int × Int} (hx : l[k]? = some x) (h : (l.take k).all todoOk = true) (hok : todoOk x = true) : (l.take (k + 1)).all todoOk = true := by
  rw [take_more hx, List.all_append, h]
  simp [hok]
theorem not_all {l : List (Int × Int)} {k : Nat} {x : Int × Int} (hx : l[k]? = some x) (hok : todoOk x = false) : l.all todoOk = false := by
  cases h : l.all todoOk with
  | false => rfl
  | true =>
    have := List.all_eq_true.1 h x (List.mem_of_getElem? hx)
    rw [hok] at this
    cases this

set_option maxHeartbeats 1600000 in
theorem fault_ok (a : Option Addr) (n c : Nat) (l : List (Int × Int)) (most : Int) (w : World) (hS : SeenT w a n l) (hn : n * 16 ≤ 140737488355328) :
    Calls Try.prog 17 #[.slice a n c, .int .i64 most] w fun e w' => e = .returned (.int .i64 (errS l most)) ∧ Keeps None w w' := by
  have hlen := hS.len
  have HS : Hid (SeenT w a n l) := hS
  clear hS
  unfold errS
  rw [← hlen]
  have HL : Hid (n = l.length) := hlen
  clear hlen
  by_cases h40 : 40 < n
  · rw [if_pos h40]
    have i1 : (40 : Int) < (n : Int) := by omega
    clear HS HL
    go_enter Try.func17, Try.ntmps17
    go_wp2
    go_ret
    exact ⟨rfl, Keeps.refl _ _⟩
  · rw [if_neg h40]
    have i1 : ¬ (40 : Int) < (n : Int) := by omega
    have hmf := mostFits_ok most w
    by_cases hm : 1 ≤ most ∧ most ≤ 4096
    · rw [if_pos hm]
      rw [decide_eq_true hm] at hmf
      clear hm
      go_enter Try.func17, Try.ntmps17
      go_wp2_with fail
      refine hmf.mono ?_
      rintro e w' ⟨rfl, hw⟩
      have hw2 := hw.symm
      subst hw2
      clear hmf hw
      go_wp2_with fail
      go_loopw [6, 17] (fun _ i wr => ∃ k : Nat, k ≤ n ∧ i = .int .i64 k ∧ (l.take k).all todoOk = true ∧ Keeps None w wr) (fun _ i _ => n - (intOf i).toNat)
      case atStart => exact ⟨0, Nat.zero_le _, rfl, rfl, Keeps.refl _ _⟩
      case round =>
        obtain ⟨k, hk, rfl, hall, hkp⟩ := hrel
        by_cases hkn : k < n
        · have hS := HS.out.more hkp
          obtain ⟨b, off, rfl, hb, hc⟩ := hS.ex (by omega)
          obtain ⟨x, hx⟩ : ∃ x, l[k]? = some x := ⟨l[k]'(by have := HL.out; omega), by simp⟩
          obtain ⟨y0, y1⟩ := hc k x hx
          have i2 : (k : Int) < (n : Int) := by omega
          have HN : Hid (todoOk x = true → (l.take (k + 1)).all todoOk = true) := fun h => all_take_more hx hall h
          have HF : Hid (todoOk x = false → l.all todoOk = false) := fun h => not_all hx h
          have HK : Hid (Keeps None w (wr.alloc (.cells #[.int .i64 x.1, .int .i64 x.2] 26))) := hkp.andAlloc _
          clear hc hS hx hall hkp HL
          obtain ⟨kd, tv⟩ := x
          simp only [] at *
          by_cases h0 : kd = 0
          · subst h0
            go_wp2
            go_roundw
            case rel => exact ⟨k + 1, by omega, by go_num, HN.out rfl, HK.out⟩
            case measure => simp [intOf]; omega
          · have b0 : (kd == 0) = false := by simpa using h0
            by_cases h1 : kd = 1
            · subst h1
              clear b0 h0
              go_wp2
              go_roundw
              case rel => exact ⟨k + 1, by omega, by go_num, HN.out rfl, HK.out⟩
              case measure => simp [intOf]; omega
            · have b1 : (kd == 1) = false := by simpa using h1
              by_cases h2 : kd = 2
              · subst h2
                clear b0 h0 b1 h1
                go_wp2
                go_roundw
                case rel => exact ⟨k + 1, by omega, by go_num, HN.out rfl, HK.out⟩
                case measure => simp [intOf]; omega
              · have b2 : (kd == 2) = false := by simpa using h2
                have hF : Hid (l.all todoOk = false) := HF.out (by simp [todoOk, h0, h1, h2])
                clear HF HN
                go_wp2
                go_ret
                exact ⟨by rw [kindErr_bad hF.out]; rfl, HK.out⟩
        · have hkn2 : k = n := by omega
          subst hkn2
          rw [List.take_of_length_le (by have := HL.out; omega)] at hall
          have hF : Hid (l.all todoOk = true) := hall
          clear hall
          go_wp2
          go_ret
          exact ⟨by rw [kindErr_ok hF.out]; rfl, hkp⟩
    · rw [if_neg hm]
      rw [decide_eq_false hm] at hmf
      clear hm HS HL
      go_enter Try.func17, Try.ntmps17
      go_wp2_with fail
      refine hmf.mono ?_
      rintro e w' ⟨rfl, hw⟩
      have hw2 := hw.symm
      subst hw2
      clear hmf hw
      go_wp2
      go_ret
      exact ⟨rfl, Keeps.refl _ _⟩
end Go.Proofs.Ytheginjjncnheaa
