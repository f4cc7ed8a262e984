import Derived.Test.YtdiabpoafennlaaRcBase
/-! Check: the program's and the document's. -/
namespace Go.Proofs.Ytdiabpoafennlaa
set_option linter.unusedVariables false
set_option maxRecDepth 20000
set_option linter.unusedSimpArgs false
open Go.RowKit Go.HeapKit

theorem blk_kept {w w' : World} {S : Nat → Prop} {p : Nat} {o : Obj} (h : w.heap[p]? = some o) (hk : Keeps S w w') (hS : ¬ S p) : w'.heap[p]? = some o := (hk.block p (blk_lt h) hS).trans h
theorem cell_of_heap {w : World} {g : Nat} {cs : Array Value} {t : TypeId} {fz : Nat × Nat} (h : w.heap[g]? = some (.cells cs t fz)) (i : Nat) : w.cell? ⟨g, i, none⟩ = cs[i]? := by simp [World.cell?, h]
/-- Is a deed wrong at a depth; the depth behind it. -/
def badK (k : Int) (d : Nat) : Bool := decide (k < 0) || decide (k > 4) || (decide (k = 1) && decide (d = 0))
def nxtK (k : Int) (d : Nat) : Nat := if k = 0 then d + 1 else if k = 1 then d - 1 else d
def chkL : List Dd → Nat → Nat → Option Nat
  | [], _, _ => none
  | x :: l, i, d => if badK x.k d = true then some i else chkL l (i + 1) (nxtK x.k d)
def chkE (l : List Dd) : Int := if l.length > 4096 then 2 else match chkL l 0 0 with | some _ => 190 | none => 0
def chkA (l : List Dd) : Int := if l.length > 4096 then 0 else match chkL l 0 0 with | some i => i | none => 0
theorem chkL_step {l : List Dd} {k : Nat} {x : Dd} (hx : l[k]? = some x) (i d : Nat) : chkL (l.drop k) i d = if badK x.k d = true then some i else chkL (l.drop (k + 1)) (i + 1) (nxtK x.k d) := by
  obtain ⟨h1, h2⟩ := List.getElem?_eq_some_iff.1 hx
  rw [List.drop_eq_getElem_cons h1, h2]
  rfl
theorem nxtK_le (k : Int) (d : Nat) : nxtK k d ≤ d + 1 := by unfold nxtK; split <;> (try split) <;> omega
def spotV (e a : Int) : Value := .agg #[.int .i64 e, .int .i64 a]
theorem results_one {P : Program} {fn : Func} {q : Tmp} {ty : TypeId} (h : fn.results = #[.cell q ty]) {tmps : Array Value} {w : World} {g : Nat} (ha : tmps.getD q undef = .pointer (some ⟨g, 0, none⟩)) {v : Value}
    (hl : (loadVar ty ⟨g, 0, none⟩).run P w = .ok v w) : (results fn tmps).run P w = .ok v w := by
  have ha' : tmps[q]?.getD undef = .pointer (some ⟨g, 0, none⟩) := by simpa using ha
  simp [results, h, ha', asAddr, hl]
theorem load_spot (w : World) (g : Nat) (t : TypeId) (e a : Int) (hb : w.heap[g]? = some (.cells #[.int .i64 e, .int .i64 a] t (0, 0))) : (loadVar 55 ⟨g, 0, none⟩).run Try.prog w = .ok (spotV e a) w :=
  run_loadVar_row _ g t 55 _ _ _ hb Try.underlying55 rfl (by kernel_rfl)
theorem spot_end {Q : Ending → World → Prop} {a : Act} {w1 : World} {g : Nat} {t : TypeId} {fn : Func} {e x : Int} (hfn : fn.results = #[.cell 2 55]) (hb : w1.heap[g]? = some (.cells #[.int .i64 e, .int .i64 x] t (0, 0)))
    (ha : a.tmps.getD 2 undef = .pointer (some ⟨g, 0, none⟩)) (hd : a.defers = []) (hQ : Q (.returned (spotV e x)) w1) : bodyPost Try.prog fn Q .ret a w1 :=
  bodyPost_ret (results_one (q := 2) (ty := 55) hfn ha (load_spot _ g t e x hb)) hd hQ
/-- The box of the answer while it is empty, and what is stored into it. -/
theorem spot_put {w0 w : World} {g : Nat} (hk : Keeps None w0 w) (hg : w0.heap.size ≤ g) (hb : w.heap[g]? = some (.cells #[.int .i64 0, .int .i64 0] 55 (0, 0))) (e x : Int) :
    ((w.setCell ⟨g, 0, none⟩ (.int .i64 e)).setCell ⟨g, 1, none⟩ (.int .i64 x)).heap[g]? = some (.cells #[.int .i64 e, .int .i64 x] 55 (0, 0)) ∧ Keeps None w0 ((w.setCell ⟨g, 0, none⟩ (.int .i64 e)).setCell ⟨g, 1, none⟩ (.int .i64 x)) :=
  ⟨blk_set (i := 1) (blk_set (i := 0) hb _) _, (hk.andSet (x := ⟨g, 0, none⟩) (.inr hg) _).andSet (x := ⟨g, 1, none⟩) (.inr hg) _⟩

/-- What is told by the first wrong one. -/
theorem chk_long {l : List Dd} (h : l.length > 4096) : chkE l = 2 ∧ chkA l = 0 := ⟨by unfold chkE; rw [if_pos h], by unfold chkA; rw [if_pos h]⟩
theorem chk_some {l : List Dd} (h : ¬ l.length > 4096) {i : Nat} (hc : chkL l 0 0 = some i) : chkE l = 190 ∧ chkA l = i := ⟨by unfold chkE; rw [if_neg h, hc], by unfold chkA; rw [if_neg h, hc]⟩
theorem chk_none {l : List Dd} (h : ¬ l.length > 4096) (hc : chkL l 0 0 = none) : chkE l = 0 ∧ chkA l = 0 := ⟨by unfold chkE; rw [if_neg h, hc], by unfold chkA; rw [if_neg h, hc]⟩
theorem spot_eq {l : List Dd} {e x : Int} (h : chkE l = e ∧ chkA l = x) : Ending.returned (spotV e x) = Ending.returned (spotV (chkE l) (chkA l)) := by rw [h.1, h.2]


set_option maxHeartbeats 1600000 in
theorem check_ok (a : Option Addr) (n c : Nat) (l : List Dd) (w : World) (hS : Seen w a n l) :
    Calls Try.prog 23 #[.slice a n c] w fun e w' => e = .returned (spotV (chkE l) (chkA l)) ∧ Keeps None w w' := by
  have HS : Hid (Seen w a n l) := hS
  have hlen : n = l.length := hS.len
  have HLen : Hid (n = l.length) := hlen
  clear hS
  have B0 := blk_new w (.cells #[.int .i64 0, .int .i64 0] 55) _ rfl
  have K0 := Keeps.alloc None w (.cells #[.int .i64 0, .int .i64 0] 55)
  by_cases hlong : n > 4096
  · have i1 : (n : Int) > 4096 := by omega
    have HE : Hid (chkE l = 2 ∧ chkA l = 0) := chk_long (by omega)
    clear hlen B0 K0
    go_enter Try.func23, Try.ntmps23
    go_wp2
    exact spot_end rfl (heap_alloc_new _ _) rfl rfl ⟨spot_eq HE.out, Keeps.alloc None w _⟩
  · have i1 : ¬ (n : Int) > 4096 := by omega
    have HShort : Hid (¬ l.length > 4096) := by intro; omega
    have HB : Hid (Keeps None w (w.alloc (.cells #[.int .i64 0, .int .i64 0] 55)) ∧ (w.alloc (.cells #[.int .i64 0, .int .i64 0] 55)).heap[w.heap.size]? = some (.cells #[.int .i64 0, .int .i64 0] 55 (0, 0))) := ⟨K0, B0⟩
    clear hlen B0 K0
    go_enter Try.func23, Try.ntmps23
    go_wp2_with fail
    go_loopw [3, 4, 5, 12] (fun d _ _ i wr => ∃ k dd : Nat, k ≤ n ∧ dd ≤ k ∧ i = .int .i64 k ∧ d = .int .i64 dd ∧ chkL l 0 0 = chkL (l.drop k) k dd ∧ Keeps None w wr ∧ wr.heap[w.heap.size]? = some (.cells #[.int .i64 0, .int .i64 0] 55 (0, 0))) (fun _ _ _ i _ => n - (intOf i).toNat)
    case atStart => exact ⟨0, 0, Nat.zero_le _, Nat.le_refl _, rfl, rfl, rfl, HB.out⟩
    case round =>
      clear HB
      obtain ⟨k, dd, hk, hdd, rfl, rfl, hch, hkp, hbox⟩ := hrel
      by_cases hkn : k < n
      · obtain ⟨b, off, x, rfl, hb, hx, u0, u1⟩ := (HS.out.more hkp).elem hkn
        have i2 : (k : Int) < (n : Int) := by omega
        have hch2 := hch.trans (chkL_step hx k dd)
        have kA := hkp.andAlloc (.cells #[.int .i64 x.k, .int .i64 x.loc] 45)
        have bB := (blk_kept hbox (Keeps.alloc None wr (.cells #[.int .i64 x.k, .int .i64 x.loc] 45)) (fun f => f))
        have HP := spot_put kA (Nat.le_refl _) bB 190 k
        have d0 := cell_of_heap bB 0
        have d1 := cell_of_heap bB 1
        have f0 := blk_free bB 0
        have f1 := blk_free bB 1
        by_cases hbad : badK x.k dd = true
        · rw [if_pos hbad] at hch2
          have HE : Hid (chkE l = 190 ∧ chkA l = k) := chk_some HShort.out hch2
          have HQ : Hid _ := HP
          clear HP hch hch2 hkp hbox kA bB hx
          have HBad : Hid (badK x.k dd = true) := hbad
          clear hbad
          by_cases n0 : x.k < 0
          · go_wp2
            exact spot_end rfl HQ.out.1 rfl rfl ⟨spot_eq HE.out, HQ.out.2⟩
          · by_cases n4 : x.k > 4
            · go_wp2
              exact spot_end rfl HQ.out.1 rfl rfl ⟨spot_eq HE.out, HQ.out.2⟩
            · have n1 : x.k = 1 ∧ dd = 0 := by have := HBad.out; unfold badK at this; simp [n0] at this; omega
              have e3 : x.k = 1 := n1.1
              have e4 : dd = 0 := n1.2
              subst e4
              clear n1 HBad
              obtain ⟨xk, xl⟩ := x
              simp only at e3
              subst e3
              go_wp2
              exact spot_end rfl HQ.out.1 rfl rfl ⟨spot_eq HE.out, HQ.out.2⟩
        · rw [if_neg hbad] at hch2
          have n0 : ¬ x.k < 0 := fun h => hbad (by unfold badK; simp [h])
          have n4 : ¬ x.k > 4 := fun h => hbad (by unfold badK; simp; omega)
          have n1 : ¬ (x.k = 1 ∧ dd = 0) := fun h => hbad (by unfold badK; simp [h.1, h.2])
          have HN : Hid (chkL l 0 0 = chkL (l.drop (k + 1)) (k + 1) (nxtK x.k dd) ∧ Keeps None w (wr.alloc (.cells #[.int .i64 x.k, .int .i64 x.loc] 45)) ∧ (wr.alloc (.cells #[.int .i64 x.k, .int .i64 x.loc] 45)).heap[w.heap.size]? = some (.cells #[.int .i64 0, .int .i64 0] 55 (0, 0))) := ⟨hch2, kA, bB⟩
          clear HP hch hch2 hkp hbox kA bB hx hbad d0 d1 f0 f1
          by_cases e0 : x.k = 0
          · have HE0 : Hid (x.k = 0) := e0
            clear n1
            go_wp2
            go_roundw
            case rel => exact ⟨k + 1, dd + 1, by omega, by omega, by go_num, by go_num, by have := HN.out; simpa [nxtK, HE0.out] using this⟩
            case measure => simp [intOf]; omega
          · by_cases e1 : x.k = 1
            · have n5 : ¬ (dd : Int) = 0 := by omega
              have HE1 : Hid (x.k = 1) := e1
              clear n1
              go_wp2
              go_roundw
              case rel => exact ⟨k + 1, dd - 1, by omega, by omega, by go_num, by go_num, by have := HN.out; simpa [nxtK, HE1.out] using this⟩
              case measure => simp [intOf]; omega
            · clear n1
              go_wp2
              go_roundw
              case rel => exact ⟨k + 1, dd, by omega, by omega, by go_num, by go_num, by have := HN.out; simpa [nxtK, e0, e1] using this⟩
              case measure => simp [intOf]; omega
      · have hkn2 : k = n := by omega
        have hch2 : chkL l 0 0 = none := by rw [hch, List.drop_eq_nil_of_le (by have := HLen.out; omega)]; rfl
        have HE : Hid (chkE l = 0 ∧ chkA l = 0) := chk_none HShort.out hch2
        subst hkn2
        have HP := spot_put hkp (Nat.le_refl _) hbox 0 0
        have d0 := cell_of_heap hbox 0
        have d1 := cell_of_heap hbox 1
        have f0 := blk_free hbox 0
        have f1 := blk_free hbox 1
        have HQ : Hid _ := HP
        clear HP hch hch2 hkp hbox
        go_wp2
        exact spot_end rfl HQ.out.1 rfl rfl ⟨spot_eq HE.out, HQ.out.2⟩

set_option maxHeartbeats 1600000 in
theorem rcheck_ok (a : Option Addr) (n c : Nat) (l : List Dd) (w : World) (hS : Seen w a n l) :
    Calls Try.prog 24 #[.slice a n c] w fun e w' => e = .returned (spotV (chkE l) (chkA l)) ∧ Keeps None w w' := by
  have HS : Hid (Seen w a n l) := hS
  have hlen : n = l.length := hS.len
  have HLen : Hid (n = l.length) := hlen
  clear hS
  have B0 := blk_new w (.cells #[.int .i64 0, .int .i64 0] 55) _ rfl
  have K0 := Keeps.alloc None w (.cells #[.int .i64 0, .int .i64 0] 55)
  by_cases hlong : n > 4096
  · have i1 : (n : Int) > 4096 := by omega
    have HE : Hid (chkE l = 2 ∧ chkA l = 0) := chk_long (by omega)
    clear hlen B0 K0
    go_enter Try.func24, Try.ntmps24
    go_wp2
    exact spot_end rfl (heap_alloc_new _ _) rfl rfl ⟨spot_eq HE.out, Keeps.alloc None w _⟩
  · have i1 : ¬ (n : Int) > 4096 := by omega
    have HShort : Hid (¬ l.length > 4096) := by intro; omega
    have HB : Hid (Keeps None w (w.alloc (.cells #[.int .i64 0, .int .i64 0] 55)) ∧ (w.alloc (.cells #[.int .i64 0, .int .i64 0] 55)).heap[w.heap.size]? = some (.cells #[.int .i64 0, .int .i64 0] 55 (0, 0))) := ⟨K0, B0⟩
    clear hlen B0 K0
    go_enter Try.func24, Try.ntmps24
    go_wp2_with fail
    go_loopw [3, 4, 5] (fun d i _ wr => ∃ k dd : Nat, k ≤ n ∧ dd ≤ k ∧ i = .int .i64 k ∧ d = .int .i64 dd ∧ chkL l 0 0 = chkL (l.drop k) k dd ∧ Keeps None w wr ∧ wr.heap[w.heap.size]? = some (.cells #[.int .i64 0, .int .i64 0] 55 (0, 0))) (fun _ i _ _ => n - (intOf i).toNat)
    case atStart => exact ⟨0, 0, Nat.zero_le _, Nat.le_refl _, rfl, rfl, rfl, HB.out⟩
    case round =>
      clear HB
      obtain ⟨k, dd, hk, hdd, rfl, rfl, hch, hkp, hbox⟩ := hrel
      by_cases hkn : k < n
      · obtain ⟨b, off, x, rfl, hb, hx, u0, u1⟩ := (HS.out.more hkp).elem hkn
        have i2 : (k : Int) < (n : Int) := by omega
        have hch2 := hch.trans (chkL_step hx k dd)
        have kA := hkp
        have bB := hbox
        have HP := spot_put kA (Nat.le_refl _) bB 190 k
        have d0 := cell_of_heap bB 0
        have d1 := cell_of_heap bB 1
        have f0 := blk_free bB 0
        have f1 := blk_free bB 1
        by_cases hbad : badK x.k dd = true
        · rw [if_pos hbad] at hch2
          have HE : Hid (chkE l = 190 ∧ chkA l = k) := chk_some HShort.out hch2
          have HQ : Hid _ := HP
          clear HP hch hch2 hkp hbox kA bB hx
          have HBad : Hid (badK x.k dd = true) := hbad
          clear hbad
          by_cases n0 : x.k < 0
          · go_wp2
            exact spot_end rfl HQ.out.1 rfl rfl ⟨spot_eq HE.out, HQ.out.2⟩
          · by_cases n4 : x.k > 4
            · go_wp2
              exact spot_end rfl HQ.out.1 rfl rfl ⟨spot_eq HE.out, HQ.out.2⟩
            · have n1 : x.k = 1 ∧ dd = 0 := by have := HBad.out; unfold badK at this; simp [n0] at this; omega
              have e3 : x.k = 1 := n1.1
              have e4 : dd = 0 := n1.2
              subst e4
              clear n1 HBad
              obtain ⟨xk, xl⟩ := x
              simp only at e3
              subst e3
              go_wp2
              exact spot_end rfl HQ.out.1 rfl rfl ⟨spot_eq HE.out, HQ.out.2⟩
        · rw [if_neg hbad] at hch2
          have n0 : ¬ x.k < 0 := fun h => hbad (by unfold badK; simp [h])
          have n4 : ¬ x.k > 4 := fun h => hbad (by unfold badK; simp; omega)
          have n1 : ¬ (x.k = 1 ∧ dd = 0) := fun h => hbad (by unfold badK; simp [h.1, h.2])
          have HN : Hid (chkL l 0 0 = chkL (l.drop (k + 1)) (k + 1) (nxtK x.k dd) ∧ Keeps None w wr ∧ wr.heap[w.heap.size]? = some (.cells #[.int .i64 0, .int .i64 0] 55 (0, 0))) := ⟨hch2, kA, bB⟩
          clear HP hch hch2 hkp hbox kA bB hx hbad d0 d1 f0 f1
          by_cases e0 : x.k = 0
          · have HE0 : Hid (x.k = 0) := e0
            clear n1
            go_wp2
            go_roundw
            case rel => exact ⟨k + 1, dd + 1, by omega, by omega, by go_num, by go_num, by have := HN.out; simpa [nxtK, HE0.out] using this⟩
            case measure => simp [intOf]; omega
          · by_cases e1 : x.k = 1
            · have n5 : ¬ (dd : Int) = 0 := by omega
              have HE1 : Hid (x.k = 1) := e1
              clear n1
              go_wp2
              go_roundw
              case rel => exact ⟨k + 1, dd - 1, by omega, by omega, by go_num, by go_num, by have := HN.out; simpa [nxtK, HE1.out] using this⟩
              case measure => simp [intOf]; omega
            · clear n1
              go_wp2
              go_roundw
              case rel => exact ⟨k + 1, dd, by omega, by omega, by go_num, by go_num, by have := HN.out; simpa [nxtK, e0, e1] using this⟩
              case measure => simp [intOf]; omega
      · have hkn2 : k = n := by omega
        have hch2 : chkL l 0 0 = none := by rw [hch, List.drop_eq_nil_of_le (by have := HLen.out; omega)]; rfl
        have HE : Hid (chkE l = 0 ∧ chkA l = 0) := chk_none HShort.out hch2
        subst hkn2
        have HP := spot_put hkp (Nat.le_refl _) hbox 0 0
        have d0 := cell_of_heap hbox 0
        have d1 := cell_of_heap hbox 1
        have f0 := blk_free hbox 0
        have f1 := blk_free hbox 1
        have HQ : Hid _ := HP
        clear HP hch hch2 hkp hbox
        go_wp2
        exact spot_end rfl HQ.out.1 rfl rfl ⟨spot_eq HE.out, HQ.out.2⟩
end Go.Proofs.Ytdiabpoafennlaa
