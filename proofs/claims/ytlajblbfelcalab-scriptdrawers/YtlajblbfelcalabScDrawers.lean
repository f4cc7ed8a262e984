import Derived.Test.YtlajblbfelcalabScDraw
import Derived.Test.YtlajblbfelcalabScCut
import Derived.Test.YtlajblbfelcalabScLaw
import Derived.Test.YtlajblbfelcalabScPull
/-! Drawers over lists. -/
namespace Go.Proofs.Ytlajblbfelcalab
set_option linter.unusedVariables false
set_option maxRecDepth 20000
open Go.RowKit Go.HeapKit Go.Sc

/-- A drawer that lies in the blocks from lo to hi. -/
structure DrK (pv : Value) (St : World → Nat → Prop) (val : Nat → Int) (lo hi : Nat) : Prop where
  kept : ∀ (S : Nat → Prop) w w' k, St w k → Keeps S w w' → (∀ x, lo ≤ x → x < hi → ¬ S x) → St w' k
  draw : ∀ w k, St w k → Calls Try.prog 23 #[pv] w fun e w' => e = .returned (.int .i64 (val k)) ∧ St w' (k + 1) ∧ Keeps (fun x => lo ≤ x ∧ x < hi) w w'
def Made (w w' : World) (g : Nat) (val : Nat → Int) : Prop := (∃ St, DrK (.pointer (some ⟨g, 0, none⟩)) St val w.heap.size w'.heap.size ∧ St w' 0) ∧ Keeps None w w'
def listV (l : List Int) (k : Nat) : Int := l.getD k 0
def loopV (l : List Int) (k : Nat) : Int := l.getD (k % l.length) 0
def listF (q : Nat) : Value := .func (Fn.func 44) #[] #[.pointer (some ⟨q, 0, none⟩)]
def loopF (q : Nat) : Value := .func (Fn.func 45) #[] #[.pointer (some ⟨q, 0, none⟩)]
theorem list1_any (q m c k : Nat) (a : Option Addr) (l : List Int) (w : World) (hb : w.heap[q]? = some (.cells #[.slice a m c] 23 (0, 0))) (h : SeenN w a m l) (hk : k ≤ m) (hm : m * 8 ≤ 140737488351232) :
    Calls Try.prog 44 #[.int .i64 k, .pointer (some ⟨q, 0, none⟩)] w fun e w' => e = .returned (.tuple #[.int .i64 (listV l k), .int .i64 ((min (k + 1) m : Nat) : Int)]) ∧ w' = w := by
  have d0 : w.cell? ⟨q, 0, none⟩ = some (.slice a m c) := (blk_cell hb 0).trans rfl
  have hl := h.len
  by_cases hkm : k < m
  · obtain ⟨b, off, x, rfl, he, c1⟩ := h.at hkm
    have HV : Hid (listV l k = x ∧ min (k + 1) m = k + 1) := ⟨by simp [listV, he], by omega⟩
    have i1 : ((k : Int) == (m : Int)) = false := by simp; omega
    have i2 : ¬ (k : Int) = (m : Int) := by omega
    have i3 : (k : Int) < (m : Int) := by omega
    have m0 : ¬ m = 0 := by omega
    clear hb h hl he
    go_enter Try.func44, Try.ntmps44
    go_wp2_with fail
    go_ret2
    exact ⟨by rw [HV.out.1, HV.out.2]; rfl, rfl⟩
  · obtain rfl : k = m := by omega
    have HV : Hid (listV l k = 0 ∧ min (k + 1) k = k) := ⟨by simp [listV, hl], by omega⟩
    clear hb h hl
    go_enter Try.func44, Try.ntmps44
    go_wp2_with fail
    go_ret2
    exact ⟨by rw [HV.out.1, HV.out.2]; rfl, rfl⟩
theorem loop1_any (q m c k : Nat) (a : Option Addr) (l : List Int) (w : World) (hb : w.heap[q]? = some (.cells #[.slice a m c] 23 (0, 0))) (h : SeenN w a m l) (hk : k < m) (hm : m * 8 ≤ 140737488351232) :
    Calls Try.prog 45 #[.int .i64 k, .pointer (some ⟨q, 0, none⟩)] w fun e w' => e = .returned (.tuple #[.int .i64 (listV l k), .int .i64 (((k + 1) % m : Nat) : Int)]) ∧ ∃ d, w' = w.drewN d := by
  have d0 : w.cell? ⟨q, 0, none⟩ = some (.slice a m c) := (blk_cell hb 0).trans rfl
  obtain ⟨b, off, x, rfl, he, c1⟩ := h.at hk
  have hv0 : listV l k = x := by simp [listV, he]
  have HV : Hid (listV l k = x) := hv0
  have i3 : (k : Int) < (m : Int) := by omega
  have m0 : ¬ m = 0 := by omega
  have m1 : ¬ (m : Int) = 0 := by omega
  obtain ⟨Q, hQ⟩ : ∃ Q, Q = (k + 1) % m := ⟨_, rfl⟩
  have HQ : Hid (Q = (k + 1) % m) := hQ
  have i4 : ((k : Int) + 1) % (m : Int) = (Q : Int) := by rw [hQ]; simp
  have I4 : Hid (((k : Int) + 1) % (m : Int) = (Q : Int)) := i4
  clear hb h he hQ i4 hv0
  go_enter Try.func45, Try.ntmps45
  go_wp2_with fail
  go_quiet (fail)
  all_goals go_wp2_with fail
  all_goals go_ret2
  all_goals exact ⟨by rw [HV.out, ← HQ.out, ← I4.out]; rfl, _, rfl⟩
set_option maxHeartbeats 1600000 in
theorem draw_list (g q : Nat) (x v y : Int) (w : World) (h : IsD w g x (listF q)) (hc : ∀ n, Calls Try.prog 44 #[.int .i64 x, .pointer (some ⟨q, 0, none⟩)] (w.drewN n) fun e w' => e = .returned (.tuple #[.int .i64 v, .int .i64 y]) ∧ ∃ m, w' = (w.drewN n).drewN m) :
    Calls Try.prog 23 #[.pointer (some ⟨g, 0, none⟩)] w fun e w' => e = .returned (.int .i64 v) ∧ IsD w' g y (listF q) ∧ Keeps (· = g) w w' := by
  have HI : Hid (IsD w g x (listF q)) := h
  have HC : Hid (∀ n, Calls Try.prog 44 #[.int .i64 x, .pointer (some ⟨q, 0, none⟩)] (w.drewN n) fun e w' => e = .returned (.tuple #[.int .i64 v, .int .i64 y]) ∧ ∃ m, w' = (w.drewN n).drewN m) := hc
  have d0 := h.c0
  have d1 := h.c1
  have f0 := blk_free h 0
  unfold listF at d1
  have hq : ∀ wz, Sem.run Try.prog (binOp BinOp.eql 49 (.func (Fn.func 44) #[] #[.pointer (some ⟨q, 0, none⟩)]) .nilFunc) wz = .ok (.bool false) wz := fun _ => by kernel_rfl
  clear h hc
  go_enter Try.func23, Try.ntmps23
  go_upto_region 3 with fail
  go_cut [3, 4] (fun s3 s4 wx => s3 = .int .i64 v ∧ s4 = .int .i64 y ∧ ∃ d, wx = w.drewN d)
  case first =>
    go_quiet ((go_at_call 44; exact Calls.quiet_of (HC.out _)))
    all_goals go_wp2_with fail
    all_goals go_meet
    all_goals exact ⟨rfl, rfl, _, rfl⟩
  case rest =>
    obtain ⟨rfl, rfl, d, rfl⟩ := hcut
    have HN : Hid (IsD ((w.drewN d).setCell ⟨g, 0, none⟩ (.int .i64 y)) g y (listF q) ∧ Keeps (· = g) w ((w.drewN d).setCell ⟨g, 0, none⟩ (.int .i64 y))) :=
      ⟨(HI.out.more (Keeps.drewN None _ _)).set _, keeps_one (Keeps.drewN _ _ _) _⟩
    go_wp2_with fail
    go_ret
    exact ⟨rfl, HN.out⟩
set_option maxHeartbeats 1600000 in
theorem draw_loop (g q : Nat) (x v y : Int) (w : World) (h : IsD w g x (loopF q)) (hc : ∀ n, Calls Try.prog 45 #[.int .i64 x, .pointer (some ⟨q, 0, none⟩)] (w.drewN n) fun e w' => e = .returned (.tuple #[.int .i64 v, .int .i64 y]) ∧ ∃ m, w' = (w.drewN n).drewN m) :
    Calls Try.prog 23 #[.pointer (some ⟨g, 0, none⟩)] w fun e w' => e = .returned (.int .i64 v) ∧ IsD w' g y (loopF q) ∧ Keeps (· = g) w w' := by
  have HI : Hid (IsD w g x (loopF q)) := h
  have HC : Hid (∀ n, Calls Try.prog 45 #[.int .i64 x, .pointer (some ⟨q, 0, none⟩)] (w.drewN n) fun e w' => e = .returned (.tuple #[.int .i64 v, .int .i64 y]) ∧ ∃ m, w' = (w.drewN n).drewN m) := hc
  have d0 := h.c0
  have d1 := h.c1
  have f0 := blk_free h 0
  unfold loopF at d1
  have hq : ∀ wz, Sem.run Try.prog (binOp BinOp.eql 49 (.func (Fn.func 45) #[] #[.pointer (some ⟨q, 0, none⟩)]) .nilFunc) wz = .ok (.bool false) wz := fun _ => by kernel_rfl
  clear h hc
  go_enter Try.func23, Try.ntmps23
  go_upto_region 3 with fail
  go_cut [3, 4] (fun s3 s4 wx => s3 = .int .i64 v ∧ s4 = .int .i64 y ∧ ∃ d, wx = w.drewN d)
  case first =>
    go_quiet ((go_at_call 45; exact Calls.quiet_of (HC.out _)))
    all_goals go_wp2_with fail
    all_goals go_meet
    all_goals exact ⟨rfl, rfl, _, rfl⟩
  case rest =>
    obtain ⟨rfl, rfl, d, rfl⟩ := hcut
    have HN : Hid (IsD ((w.drewN d).setCell ⟨g, 0, none⟩ (.int .i64 y)) g y (loopF q) ∧ Keeps (· = g) w ((w.drewN d).setCell ⟨g, 0, none⟩ (.int .i64 y))) :=
      ⟨(HI.out.more (Keeps.drewN None _ _)).set _, keeps_one (Keeps.drewN _ _ _) _⟩
    go_wp2_with fail
    go_ret
    exact ⟨rfl, HN.out⟩
/-- What a drawer over a list holds. -/
structure LdS (w : World) (g q lo hi m : Nat) (va : Option Addr) (vc : Nat) (l : List Int) (at' : Nat) (fv : Value) : Prop where
  d : IsD w g at' fv
  b : w.heap[q]? = some (.cells #[.slice va m vc] 23 (0, 0))
  r : w.ownsRow lo 3 1 (.slice va m vc) m (iv l)
  rg : ∀ x, (Value.slice va m vc).ownBlock = some x → x < hi
  og : lo ≤ g ∧ g < hi ∧ lo ≤ q ∧ q < hi ∧ g ≠ q
  gr : ∀ x, (Value.slice va m vc).ownBlock = some x → x ≠ g
theorem LdS.kept {S : Nat → Prop} {w w' : World} {g q lo hi m : Nat} {va : Option Addr} {vc : Nat} {l : List Int} {at' : Nat} {fv : Value} (h : LdS w g q lo hi m va vc l at' fv) (hk : Keeps S w w') (hS : ∀ x, lo ≤ x → x < hi → ¬ S x) : LdS w' g q lo hi m va vc l at' fv :=
  ⟨h.d.kept hk (hS _ h.og.1 h.og.2.1), blk_kept h.b hk (hS _ h.og.2.2.1 h.og.2.2.2.1), row_kept h.r hk (fun x e => hS x (row_low h.r e) (h.rg x e)), h.rg, h.og, h.gr⟩
theorem LdS.next {w w' : World} {g q lo hi m : Nat} {va : Option Addr} {vc : Nat} {l : List Int} {at' y : Nat} {fv : Value} (h : LdS w g q lo hi m va vc l at' fv) (hd : IsD w' g y fv) (hk : Keeps (· = g) w w') : LdS w' g q lo hi m va vc l y fv :=
  ⟨hd, blk_kept h.b hk (fun e => h.og.2.2.2.2 e.symm), row_kept h.r hk (fun x e => h.gr x e), h.rg, h.og, h.gr⟩
theorem list_kind (g q lo hi m : Nat) (va : Option Addr) (vc : Nat) (l : List Int) (hm : m * 8 ≤ 140737488351232) : DrK (.pointer (some ⟨g, 0, none⟩)) (fun w k => LdS w g q lo hi m va vc l (min k m) (listF q)) (listV l) lo hi where
  kept := fun S w w' k h hk hS => h.kept hk hS
  draw := fun w k h => by
    have hl := row_len h.r
    refine (draw_list g q (min k m : Nat) (listV l k) (min (k + 1) m : Nat) w h.d (fun n => ?_)).mono ?_
    · have := list1_any q m vc (min k m) va l (w.drewN n) h.b ((row_seen h.r).more (Keeps.drewN None _ _)) (Nat.min_le_right _ _) hm
      have e1 : listV l (min k m) = listV l k := by
        unfold listV
        by_cases c : k < m
        · rw [Nat.min_eq_left (by omega)]
        · rw [Nat.min_eq_right (by omega), List.getD_eq_getElem?_getD, List.getD_eq_getElem?_getD, List.getElem?_eq_none (by omega), List.getElem?_eq_none (by omega)]
      have e2 : min (min k m + 1) m = min (k + 1) m := by omega
      rw [e1, e2] at this
      exact this.mono fun e w' ⟨a, b⟩ => ⟨a, 0, b⟩
    · rintro _ w' ⟨rfl, h1, h2⟩
      exact ⟨rfl, h.next h1 h2, h2.mono (fun x e _ => by subst e; exact ⟨h.og.1, h.og.2.1⟩)⟩
theorem loop_kind (g q lo hi m : Nat) (va : Option Addr) (vc : Nat) (l : List Int) (hm : m * 8 ≤ 140737488351232) (h0 : 0 < m) : DrK (.pointer (some ⟨g, 0, none⟩)) (fun w k => LdS w g q lo hi m va vc l (k % m) (loopF q)) (loopV l) lo hi where
  kept := fun S w w' k h hk hS => h.kept hk hS
  draw := fun w k h => by
    have hl := row_len h.r
    refine (draw_loop g q (k % m : Nat) (loopV l k) ((k + 1) % m : Nat) w h.d (fun n => ?_)).mono ?_
    · have := loop1_any q m vc (k % m) va l (w.drewN n) h.b ((row_seen h.r).more (Keeps.drewN None _ _)) (Nat.mod_lt _ h0) hm
      have e1 : listV l (k % m) = loopV l k := by unfold listV loopV; rw [hl]
      have e2 : (k % m + 1) % m = (k + 1) % m := by rw [Nat.mod_add_mod]
      rw [e1, e2] at this
      exact this
    · rintro _ w' ⟨rfl, h1, h2⟩
      exact ⟨rfl, h.next h1 h2, h2.mono (fun x e _ => by subst e; exact ⟨h.og.1, h.og.2.1⟩)⟩
theorem seed_kind (g lo hi : Nat) (seed : Int) (h1 : lo ≤ g) (h2 : g < hi) : DrK (.pointer (some ⟨g, 0, none⟩)) (fun w k => IsD w g (seedK seed k) seedF) (fun k => num (seedK seed (k + 1))) lo hi where
  kept := fun S w w' k h hk hS => h.kept hk (hS g h1 h2)
  draw := fun w k h => (draw_seeded g (seedK seed k) w h).mono fun e w' ⟨a, b, c⟩ => ⟨a, b, c.mono (fun x e _ => by subst e; exact ⟨h1, h2⟩)⟩
set_option maxHeartbeats 1600000 in
theorem list_any (a : Option Addr) (m c : Nat) (l : List Int) (w : World) (h : SeenN w a m l) (hm : m * 8 ≤ 140737488351232) :
    Calls Try.prog 28 #[.slice a m c] w fun e w' => ∃ g, e = .returned (.pointer (some ⟨g, 0, none⟩)) ∧ Made w w' g (listV l) := by
  have HS : Hid (SeenN w a m l) := h
  obtain ⟨q, hq⟩ : ∃ q, q = w.heap.size := ⟨_, rfl⟩
  have hb := blk_new w (.cells #[.slice a m c] 23) q hq.symm
  have hkb := keeps1 w (.cells #[.slice a m c] 23)
  go_enter Try.func28, Try.ntmps28
  go_upto_region 1 with fail
  rw [← hq]
  generalize w.alloc (.cells #[.slice a m c] 23) = wb at *
  have HB : Hid (wb.heap[q]? = some (.cells #[.slice a m c] 23 (0, 0)) ∧ Keeps None w wb ∧ q = w.heap.size) := ⟨hb, hkb, hq⟩
  have c0 : wb.cell? ⟨q, 0, none⟩ = some (.slice a m c) := (blk_cell hb 0).trans rfl
  have hql := blk_lt hb
  clear hb hkb hq h
  go_wp2_with fail
  refine (clone_any a m c l _ (HS.out.more HB.out.2.1) hm).mono ?_
  rintro _ w1 ⟨v, rfl, hr, hk⟩
  obtain ⟨va, vc, rfl⟩ := row_shape hr
  have hb1 := blk_kept HB.out.1 hk (fun f => f)
  have c1 := (blk_cell hb1 0).trans rfl
  have f1 := blk_free hb1 0
  have hs : Keeps (· = q) w1 (w1.setCell ⟨q, 0, none⟩ (.slice va m vc)) := Keeps.setCell (S := (· = q)) w1 rfl _
  have H2 : Hid ((w1.setCell ⟨q, 0, none⟩ (.slice va m vc)).heap[q]? = some (.cells #[.slice va m vc] 23 (0, 0)) ∧ (w1.setCell ⟨q, 0, none⟩ (.slice va m vc)).ownsRow (q + 1) 3 1 (.slice va m vc) m (iv l) ∧ Keeps None w (w1.setCell ⟨q, 0, none⟩ (.slice va m vc)) ∧ q < (w1.setCell ⟨q, 0, none⟩ (.slice va m vc)).heap.size) := by
    have e := HB.out.2.2
    have z := hk.size
    refine ⟨blk_set (i := 0) hb1 _, row_kept (row_base hr (by omega)) hs (fun x ex e2 => by have := row_low hr ex; omega), (HB.out.2.1.trans hk (fun _ f _ => f)).trans hs (fun i e hi => by omega), by have := hs.size; omega⟩
  clear hb1 hs hr hk
  go_upto_region 2 with fail
  generalize w1.setCell ⟨q, 0, none⟩ (.slice va m vc) = we at *
  clear c1 f1 c0
  obtain ⟨g, hg⟩ : ∃ g, g = we.heap.size := ⟨_, rfl⟩
  have HM : Hid (Made w (we.alloc (.cells #[.int .i64 0, listF q] 51)) g (listV l)) := by
    have hkk := keeps1 we (.cells #[.int .i64 0, listF q] 51)
    have e := HB.out.2.2
    refine ⟨⟨_, list_kind g q w.heap.size (we.alloc (.cells #[.int .i64 0, listF q] 51)).heap.size m va vc l hm, ?_⟩, H2.out.2.2.1.trans hkk (fun _ f _ => f)⟩
    have z := H2.out.2.2.2
    have hm0 : min 0 m = 0 := Nat.zero_min m
    refine ⟨?_, blk_old H2.out.1 _, row_more (row_base H2.out.2.1 (by omega)) hkk, fun x ex => by have := own_lt H2.out.2.1 ex; simp; omega, ⟨by have := H2.out.2.2.1.size; omega, by simp; omega, by omega, by simp; omega, by omega⟩, fun x ex => by have := own_lt H2.out.2.1 ex; omega⟩
    rw [hm0]
    exact blk_new _ _ _ hg.symm
  unfold listF at HM
  go_wp2_with fail
  rw [← hg]
  go_ret
  exact ⟨g, rfl, HM.out⟩
set_option maxHeartbeats 1600000 in
theorem loop_any (a : Option Addr) (m c : Nat) (l : List Int) (w : World) (h : SeenN w a m l) (hm : m * 8 ≤ 140737488351232) :
    Calls Try.prog 29 #[.slice a m c] w fun e w' => ∃ g, e = .returned (.pointer (some ⟨g, 0, none⟩)) ∧ Made w w' g (loopV l) := by
  have HS : Hid (SeenN w a m l) := h
  have hl := h.len
  obtain ⟨q, hq⟩ : ∃ q, q = w.heap.size := ⟨_, rfl⟩
  have hb := blk_new w (.cells #[.slice a m c] 23) q hq.symm
  have hkb := keeps1 w (.cells #[.slice a m c] 23)
  by_cases h0 : m = 0
  · have hl0 : l = [] := List.eq_nil_of_length_eq_zero (by omega)
    have HL0 : Hid (l = []) := hl0
    subst h0
    clear hl hl0
    go_enter Try.func29, Try.ntmps29
    go_upto_region 1 with fail
    rw [← hq]
    generalize w.alloc (.cells #[.slice a 0 c] 23) = wb at *
    have HB : Hid (Keeps None w wb ∧ q = w.heap.size) := ⟨hkb, hq⟩
    have c0 : wb.cell? ⟨q, 0, none⟩ = some (.slice a 0 c) := (blk_cell hb 0).trans rfl
    clear hb hkb hq h
    go_wp2_with fail
    refine (list_any none 0 0 [] _ ⟨rfl, fun h => by omega⟩ (by omega)).mono ?_
    rintro _ w1 ⟨g, rfl, ⟨St, hK, hSt⟩, hk⟩
    have HM : Hid (Made w w1 g (loopV l)) := by
      rw [HL0.out]
      refine ⟨⟨St, ⟨fun S w w' k h hk hS => hK.kept S w w' k h hk (fun x h1 h2 => hS x (by have := HB.out.1.size; omega) h2), fun w k h => ?_⟩, hSt⟩, HB.out.1.trans hk (fun _ f _ => f)⟩
      have := hK.draw w k h
      have e : listV [] k = loopV [] k := by simp [listV, loopV]
      rw [e] at this
      exact this.mono fun e w' ⟨a, b, c⟩ => ⟨a, b, c.mono (fun x h _ => ⟨by have := HB.out.1.size; omega, h.2⟩)⟩
    clear hK hSt hk
    go_wp2_with fail
    go_ret
    exact ⟨g, rfl, HM.out⟩
  · have i1 : ((m : Int) == 0) = false := by simp; omega
    have i2 : ¬ (m : Int) = 0 := by omega
    clear hl
    go_enter Try.func29, Try.ntmps29
    go_upto_region 1 with fail
    rw [← hq]
    generalize w.alloc (.cells #[.slice a m c] 23) = wb at *
    have HB : Hid (wb.heap[q]? = some (.cells #[.slice a m c] 23 (0, 0)) ∧ Keeps None w wb ∧ q = w.heap.size) := ⟨hb, hkb, hq⟩
    have c0 : wb.cell? ⟨q, 0, none⟩ = some (.slice a m c) := (blk_cell hb 0).trans rfl
    have hql := blk_lt hb
    clear hb hkb hq h
    go_wp2_with fail
    refine (clone_any a m c l _ (HS.out.more HB.out.2.1) hm).mono ?_
    rintro _ w1 ⟨v, rfl, hr, hk⟩
    obtain ⟨va, vc, rfl⟩ := row_shape hr
    have hb1 := blk_kept HB.out.1 hk (fun f => f)
    have c1 := (blk_cell hb1 0).trans rfl
    have f1 := blk_free hb1 0
    have hs : Keeps (· = q) w1 (w1.setCell ⟨q, 0, none⟩ (.slice va m vc)) := Keeps.setCell (S := (· = q)) w1 rfl _
    have H2 : Hid ((w1.setCell ⟨q, 0, none⟩ (.slice va m vc)).heap[q]? = some (.cells #[.slice va m vc] 23 (0, 0)) ∧ (w1.setCell ⟨q, 0, none⟩ (.slice va m vc)).ownsRow (q + 1) 3 1 (.slice va m vc) m (iv l) ∧ Keeps None w (w1.setCell ⟨q, 0, none⟩ (.slice va m vc)) ∧ q < (w1.setCell ⟨q, 0, none⟩ (.slice va m vc)).heap.size) := by
      have e := HB.out.2.2
      have z := hk.size
      refine ⟨blk_set (i := 0) hb1 _, row_kept (row_base hr (by omega)) hs (fun x ex e2 => by have := row_low hr ex; omega), (HB.out.2.1.trans hk (fun _ f _ => f)).trans hs (fun i e hi => by omega), by have := hs.size; omega⟩
    clear hb1 hs hr hk
    go_upto_region 4 with fail
    generalize w1.setCell ⟨q, 0, none⟩ (.slice va m vc) = we at *
    clear c1 f1 c0
    obtain ⟨g, hg⟩ : ∃ g, g = we.heap.size := ⟨_, rfl⟩
    have HM : Hid (Made w (we.alloc (.cells #[.int .i64 0, loopF q] 51)) g (loopV l)) := by
      have hkk := keeps1 we (.cells #[.int .i64 0, loopF q] 51)
      have e := HB.out.2.2
      refine ⟨⟨_, loop_kind g q w.heap.size (we.alloc (.cells #[.int .i64 0, loopF q] 51)).heap.size m va vc l hm (by omega), ?_⟩, H2.out.2.2.1.trans hkk (fun _ f _ => f)⟩
      have z := H2.out.2.2.2
      have hm0 : 0 % m = 0 := Nat.zero_mod m
      refine ⟨?_, blk_old H2.out.1 _, row_more (row_base H2.out.2.1 (by omega)) hkk, fun x ex => by have := own_lt H2.out.2.1 ex; simp; omega, ⟨by have := H2.out.2.2.1.size; omega, by simp; omega, by omega, by simp; omega, by omega⟩, fun x ex => by have := own_lt H2.out.2.1 ex; omega⟩
      rw [hm0]
      exact blk_new _ _ _ hg.symm
    unfold loopF at HM
    go_wp2_with fail
    rw [← hg]
    go_ret
    exact ⟨g, rfl, HM.out⟩
theorem seeded_made (x : Int) (w : World) : Calls Try.prog 19 #[.int .i64 x] w fun e w' => ∃ g, e = .returned (.pointer (some ⟨g, 0, none⟩)) ∧ Made w w' g (fun k => num (seedK x (k + 1))) := by
  refine (seeded_any x w).mono ?_
  rintro _ w' ⟨rfl, h1, h2⟩
  exact ⟨_, rfl, ⟨_, seed_kind _ _ _ x (Nat.le_refl _) h1.lt, h1⟩, h2⟩
end Go.Proofs.Ytlajblbfelcalab
