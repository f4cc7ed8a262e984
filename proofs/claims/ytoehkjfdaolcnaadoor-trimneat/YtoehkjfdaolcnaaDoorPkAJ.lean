import Derived.Test.YtoehkjfdaolcnaaDoorPkAC
import Derived.Test.YtoehkjfdaolcnaaDoorPkAI
import Derived.Deep.RegionHeld3
import Derived.Laws.Shifts
import Derived.Deep.LoopGhost
import Derived.Deep.CutBlock
/-! What an instruction reads and writes, and where it goes on: the program's. -/
namespace Go.Proofs.YtoehkjfdaolcnaaDoor
set_option linter.unusedVariables false
set_option maxRecDepth 20000
set_option linter.unusedSimpArgs false
open Go.RowKit Go.HeapKit

/-- The registers of an instruction of a valid program. -/
structure RegOk (fs : List Fn) (i : Ins) : Prop where
  kind : 0 ≤ i.kind ∧ i.kind < 10
  wr : i.kind = 0 ∨ i.kind = 1 ∨ i.kind = 2 ∨ i.kind = 7 ∨ i.kind = 8 → 0 ≤ i.a ∧ i.a < 16
  rb : i.kind = 1 ∨ i.kind = 2 → 0 ≤ i.b ∧ i.b < 16
  rc : i.kind = 2 → 0 ≤ i.c ∧ i.c < 16
  ra : i.kind = 4 ∨ i.kind = 9 → 0 ≤ i.a ∧ i.a < 16
  sp : i.kind = 5 → 0 ≤ i.b ∧ i.b < fs.length ∧ 0 ≤ parV fs i.b ∧ parV fs i.b ≤ 8 ∧ (parV fs i.b = 0 ∨ (0 ≤ i.c ∧ i.c + parV fs i.b ≤ 16))
def wrS (i : Ins) (k : Nat) : Bool := decide (wrV i = (k : Int))
def argS (first : Int) (n k : Nat) : Bool := decide (first ≤ (k : Int) ∧ (k : Int) < first + n)
def rdS (fs : List Fn) (i : Ins) (k : Nat) : Bool := rdV fs i (k : Int)
set_option maxHeartbeats 400000 in
theorem only_ok (r : Nat) (w : World) (hr : r < 16) : Calls Tryd.prog 51 #[.int .i64 (r : Int)] w fun e w' => ∃ Z : Nat, e = .returned (.int .u16 (Z : Int)) ∧ Bs Z (onlyS r) ∧ w' = w := by
  obtain ⟨Z, hZ, hb⟩ := bs_only hr
  have h1 : (r : Int) ≤ 16 := by omega
  have h0 : (0 : Int) ≤ (r : Int) := by omega
  have HZ : Hid (IntKind.u16.wrap (1 * 2 ^ r : Int) = (Z : Int) ∧ Bs Z (onlyS r)) := ⟨hZ, hb⟩
  clear hZ hb
  go_enter Tryd.func51, Tryd.ntmps51
  go_wp2_with fail
  go_ret
  refine ⟨Z, ?_, HZ.out.2, rfl⟩
  have := HZ.out.1
  simp at this ⊢
  exact this
theorem kinds10 {k : Int} (h : 0 ≤ k ∧ k < 10) : k = 0 ∨ k = 1 ∨ k = 2 ∨ k = 3 ∨ k = 4 ∨ k = 5 ∨ k = 6 ∨ k = 7 ∨ k = 8 ∨ k = 9 := by omega
def boxI (i : Ins) : Obj := .cells #[.int .i64 i.kind, .int .i64 i.a, .int .i64 i.b, .int .i64 i.c, .int .i64 i.k] 39
set_option maxHeartbeats 1000000 in
theorem writes_ok (fs : List Fn) (i : Ins) (w : World) (h : RegOk fs i) : Calls Tryd.prog 50 #[insV i] w fun e w' => ∃ Z : Nat, e = .returned (.int .u16 (Z : Int)) ∧ Bs Z (wrS i) ∧ Keeps None w w' := by
  have hal : Keeps None w (w.alloc (.cells #[.int .i64 i.kind, .int .i64 i.a, .int .i64 i.b, .int .i64 i.c, .int .i64 i.k] 39)) := Keeps.alloc None w _
  have HA : Hid (Keeps None w (w.alloc (.cells #[.int .i64 i.kind, .int .i64 i.a, .int .i64 i.b, .int .i64 i.c, .int .i64 i.k] 39))) := hal
  clear hal
  obtain ⟨kd, a, b, c, kk⟩ := i
  have hk := kinds10 h.kind
  simp only at hk HA
  unfold insV
  simp only
  by_cases hw : kd = 0 ∨ kd = 1 ∨ kd = 2 ∨ kd = 7 ∨ kd = 8
  · obtain ⟨h0, h1⟩ := h.wr hw
    simp only at h0 h1
    obtain ⟨q, rfl⟩ := Int.eq_ofNat_of_zero_le h0
    have HO : Hid (∀ w', Calls Tryd.prog 51 #[.int .i64 (q : Int)] w' fun e w'' => ∃ Z : Nat, e = .returned (.int .u16 (Z : Int)) ∧ Bs Z (onlyS q) ∧ w'' = w') := fun w' => only_ok q w' (by omega)
    have HW : Hid (∀ Z : Nat, Bs Z (onlyS q) → Bs Z (wrS ⟨kd, q, b, c, kk⟩)) := fun Z hb => hb.congr fun r hr => by
      have e : wrV ⟨kd, (q : Int), b, c, kk⟩ = (q : Int) := by unfold wrV; rw [if_pos hw]
      unfold onlyS wrS
      rw [e]
      by_cases e2 : r = q
      · subst e2; simp
      · rw [decide_eq_false e2, decide_eq_false (by omega)]
    clear h h0 h1 hk
    rcases hw with rfl | rfl | rfl | rfl | rfl
    all_goals (go_enter Tryd.func50, Tryd.ntmps50)
    all_goals (go_wp2_with (go_at_call 51; refine Calls.mono (HO.out _) ?_; rintro _ w5 ⟨Z, rfl, hb, hw5⟩; have hw5' := hw5.symm; subst hw5'; clear hw5; have HB : Hid _ := hb; clear hb))
    all_goals go_ret
    all_goals exact ⟨Z, rfl, HW.out Z HB.out, HA.out⟩
  · have hw2 : kd = 3 ∨ kd = 4 ∨ kd = 5 ∨ kd = 6 ∨ kd = 9 := by omega
    have HW : Hid (Bs 0 (wrS ⟨kd, a, b, c, kk⟩)) := bs_none.congr fun r hr => by
      have e : wrV ⟨kd, a, b, c, kk⟩ = -1 := by unfold wrV; rw [if_neg hw]
      unfold wrS
      rw [e, decide_eq_false (by omega)]
    clear h hw hk
    rcases hw2 with rfl | rfl | rfl | rfl | rfl
    all_goals (go_enter Tryd.func50, Tryd.ntmps50)
    all_goals go_wp2_with fail
    all_goals go_ret
    all_goals exact ⟨0, rfl, HW.out, HA.out⟩
set_option maxHeartbeats 1000000 in
theorem arguments_ok (first : Int) (n : Nat) (w : World) (hn : n ≤ 8) (h : n = 0 ∨ (0 ≤ first ∧ first + n ≤ 16)) : Calls Tryd.prog 70 #[.int .i64 first, .int .i64 (n : Int)] w fun e w' => ∃ Z : Nat, e = .returned (.int .u16 (Z : Int)) ∧ Bs Z (argS first n) ∧ w' = w := by
  have HH : Hid (n = 0 ∨ (0 ≤ first ∧ first + n ≤ 16)) := h
  clear h
  go_enter Tryd.func70, Tryd.ntmps70
  go_wp2_with fail
  go_loopw [5, 8] (fun s5 s8 wr => ∃ k Z : Nat, k ≤ n ∧ s8 = .int .i64 k ∧ s5 = .int .u16 (Z : Int) ∧ Bs Z (argS first k) ∧ wr = w) (fun _ i _ => n - (intOf i).toNat)
  case atStart => exact ⟨0, 0, Nat.zero_le _, rfl, rfl, bs_none.congr (fun r hr => by unfold argS; rw [decide_eq_false (by omega)]), rfl⟩
  case round =>
    obtain ⟨k, Z, hk, rfl, rfl, hb, rfl⟩ := hrel
    by_cases hkn : k < n
    · have i1 : (k : Int) < (n : Int) := by omega
      have hf : 0 ≤ first ∧ first + n ≤ 16 := by have := HH.out; omega
      obtain ⟨f, rfl⟩ := Int.eq_ofNat_of_zero_le hf.1
      have HO : Hid (∀ w', Calls Tryd.prog 51 #[.int .i64 ((f : Int) + (k : Int))] w' fun e w'' => ∃ Z : Nat, e = .returned (.int .u16 (Z : Int)) ∧ Bs Z (onlyS (f + k)) ∧ w'' = w') := fun w' => by
        have := only_ok (f + k) w' (by omega)
        rw [show (((f + k : Nat)) : Int) = (f : Int) + (k : Int) by omega] at this
        exact this
      have hf2 : (f : Int) ≤ 16 := by omega
      have HB : Hid _ := hb
      clear hb hf
      go_wp2_with (go_at_call 51; refine Calls.mono (HO.out _) ?_; rintro _ w5 ⟨Z2, rfl, hb2, hw5⟩; have hw5' := hw5.symm; subst hw5'; clear hw5; obtain ⟨Z3, ho, hb3⟩ := bs_or HB.out hb2; have HB3 : Hid _ := hb3; clear hb2 hb3)
      refine ⟨⟨k + 1, Z3, by omega, by go_num, rfl, HB3.out.congr (fun r hr => ?_), trivial⟩, by simp [intOf]; omega⟩
      unfold orS argS onlyS
      by_cases e : r = f + k
      · subst e
        rw [decide_eq_true rfl, Bool.or_true, decide_eq_true (by omega)]
      · rw [decide_eq_false e, Bool.or_false]
        by_cases e2 : (f : Int) ≤ (r : Int) ∧ (r : Int) < (f : Int) + (k : Int)
        · rw [decide_eq_true e2, decide_eq_true (by omega)]
        · rw [decide_eq_false e2, decide_eq_false (by omega)]
    · have i1 : ¬ (k : Int) < (n : Int) := by omega
      have e : k = n := by omega
      subst e
      have HB : Hid _ := hb
      clear hb
      go_wp2_with fail
      go_ret
      exact ⟨Z, rfl, HB.out, rfl⟩
theorem row_nilT (w : World) (base : Nat) (e : TypeId) (size : Nat) : w.ownsRow base e size (.slice none 0 0) 0 [] := ⟨by simp, .inl ⟨rfl, rfl⟩⟩
/-- A list of numbers in a block of its own. -/
def OwnL (w : World) (base : Nat) (v : Value) (L : List Int) : Prop := w.ownsRow base 3 1 v L.length (L.map (Value.int .i64))
theorem own_one {w : World} {base : Nat} {a : Int} (hb : base ≤ w.heap.size) : OwnL (w.alloc (.cells #[.int .i64 a] 3)) base (.slice (some ⟨w.heap.size, 0, none⟩) 1 1) [a] :=
  ⟨rfl, .inr ⟨_, 1, _, rfl, hb, heap_alloc_new _ _, Nat.le_refl _, by decide, rfl, rfl⟩⟩
theorem own_two {w : World} {base : Nat} {a b : Int} (hb : base ≤ w.heap.size) : OwnL (w.alloc (.cells #[.int .i64 a, .int .i64 b] 3)) base (.slice (some ⟨w.heap.size, 0, none⟩) 2 2) [a, b] :=
  ⟨rfl, .inr ⟨_, 2, _, rfl, hb, heap_alloc_new _ _, Nat.le_refl _, by decide, rfl, rfl⟩⟩
theorem ex_next (t : Int) {i : Ins} (h : i.kind = 0 ∨ i.kind = 1 ∨ i.kind = 2 ∨ i.kind = 5 ∨ i.kind = 6 ∨ i.kind = 7 ∨ i.kind = 8) : exitsV t i = [t + 1] := by
  obtain ⟨kd, a, b, c, kk⟩ := i
  simp only at h
  rcases h with rfl | rfl | rfl | rfl | rfl | rfl | rfl <;> rfl
theorem ex_jump (t : Int) {i : Ins} (h : i.kind = 3) : exitsV t i = [i.a] := by
  obtain ⟨kd, a, b, c, kk⟩ := i
  simp only at h
  subst h
  rfl
theorem ex_branch (t : Int) {i : Ins} (h : i.kind = 4) : exitsV t i = [t + 1, i.b] := by
  obtain ⟨kd, a, b, c, kk⟩ := i
  simp only at h
  subst h
  rfl
theorem ex_ret (t : Int) {i : Ins} (h : i.kind = 9) : exitsV t i = [] := by
  obtain ⟨kd, a, b, c, kk⟩ := i
  simp only at h
  subst h
  rfl
set_option maxHeartbeats 1000000 in
theorem exits_ok (t : Nat) (i : Ins) (w : World) (h : 0 ≤ i.kind ∧ i.kind < 10) (ht : t ≤ 1000) : Calls Tryd.prog 69 #[.int .i64 (t : Int), insV i] w fun e w' => ∃ v, e = .returned v ∧ OwnL w' w.heap.size v (exitsV t i) ∧ Keeps None w w' := by
  obtain ⟨kd, a, b, c, kk⟩ := i
  have hk := kinds10 h
  simp only at hk
  unfold insV
  simp only
  have hal := Keeps.alloc None w (.cells #[.int .i64 kd, .int .i64 a, .int .i64 b, .int .i64 c, .int .i64 kk] 39)
  have HF : Hid (∀ L : List Int, ∀ v, OwnL ((w.alloc (.cells #[.int .i64 kd, .int .i64 a, .int .i64 b, .int .i64 c, .int .i64 kk] 39)).alloc (.cells (L.map (Value.int .i64)).toArray 3)) w.heap.size v L → Keeps None w ((w.alloc (.cells #[.int .i64 kd, .int .i64 a, .int .i64 b, .int .i64 c, .int .i64 kk] 39)).alloc (.cells (L.map (Value.int .i64)).toArray 3))) := fun L v _ => hal.andAlloc _
  have HA : Hid _ := hal
  clear hal h
  have hs : w.heap.size ≤ (w.alloc (.cells #[.int .i64 kd, .int .i64 a, .int .i64 b, .int .i64 c, .int .i64 kk] 39)).heap.size := HA.out.size
  have HS : Hid _ := hs
  clear hs
  rcases hk with rfl | rfl | rfl | rfl | rfl | rfl | rfl | rfl | rfl | rfl
  all_goals (go_enter Tryd.func69, Tryd.ntmps69)
  all_goals go_wp2_with fail
  all_goals go_ret
  · exact ⟨_, rfl, by rw [ex_next _ (by simp)]; simpa using own_one (a := (t : Int) + 1) HS.out, HA.out.andAlloc _⟩
  · exact ⟨_, rfl, by rw [ex_next _ (by simp)]; simpa using own_one (a := (t : Int) + 1) HS.out, HA.out.andAlloc _⟩
  · exact ⟨_, rfl, by rw [ex_next _ (by simp)]; simpa using own_one (a := (t : Int) + 1) HS.out, HA.out.andAlloc _⟩
  · exact ⟨_, rfl, by rw [ex_jump _ rfl]; simpa using own_one (a := a) HS.out, HA.out.andAlloc _⟩
  · exact ⟨_, rfl, by rw [ex_branch _ rfl]; simpa using own_two (a := (t : Int) + 1) (b := b) HS.out, HA.out.andAlloc _⟩
  · exact ⟨_, rfl, by rw [ex_next _ (by simp)]; simpa using own_one (a := (t : Int) + 1) HS.out, HA.out.andAlloc _⟩
  · exact ⟨_, rfl, by rw [ex_next _ (by simp)]; simpa using own_one (a := (t : Int) + 1) HS.out, HA.out.andAlloc _⟩
  · exact ⟨_, rfl, by rw [ex_next _ (by simp)]; simpa using own_one (a := (t : Int) + 1) HS.out, HA.out.andAlloc _⟩
  · exact ⟨_, rfl, by rw [ex_next _ (by simp)]; simpa using own_one (a := (t : Int) + 1) HS.out, HA.out.andAlloc _⟩
  · exact ⟨_, rfl, by rw [ex_ret _ rfl]; exact row_nilT _ _ _ _, HA.out⟩
set_option maxHeartbeats 2000000 in
theorem reads_ok (a0 : Option Addr) (n0 c0 : Nat) (fs : List Fn) (i : Ins) (w : World) (hS : SeenF w a0 n0 fs) (h : RegOk fs i) : Calls Tryd.prog 49 #[insV i, .slice a0 n0 c0] w fun e w' => ∃ Z : Nat, e = .returned (.int .u16 (Z : Int)) ∧ Bs Z (rdS fs i) ∧ Keeps None w w' := by
  obtain ⟨kd, a, b, c, kk⟩ := i
  have hk := kinds10 h.kind
  simp only at hk
  have hal := Keeps.alloc None w (.cells #[.int .i64 kd, .int .i64 a, .int .i64 b, .int .i64 c, .int .i64 kk] 39)
  have HA : Hid _ := hal
  have HO : Hid (∀ (q : Nat) w', q < 16 → Calls Tryd.prog 51 #[.int .i64 (q : Int)] w' fun e w'' => ∃ Z : Nat, e = .returned (.int .u16 (Z : Int)) ∧ Bs Z (onlyS q) ∧ w'' = w') := fun q w' hq => only_ok q w' hq
  unfold insV
  simp only
  rcases hk with rfl | rfl | rfl | rfl | rfl | rfl | rfl | rfl | rfl | rfl
  -- kinds that read nothing
  case inl =>
    clear hal h hS
    go_enter Tryd.func49, Tryd.ntmps49
    go_wp2_with fail
    go_ret
    exact ⟨0, rfl, bs_none.congr (fun r hr => rfl), HA.out⟩
  -- IMove
  case inr.inl =>
    obtain ⟨h0, h1⟩ := h.rb (.inl rfl)
    simp only at h0 h1
    obtain ⟨q, rfl⟩ := Int.eq_ofNat_of_zero_le h0
    have hq : q < 16 := by omega
    clear hal h hS h0 h1
    go_enter Tryd.func49, Tryd.ntmps49
    go_wp2_with (go_at_call 51; refine Calls.mono (HO.out _ _ hq) ?_; rintro _ w5 ⟨Z, rfl, hb, hw5⟩; have hw5' := hw5.symm; subst hw5'; clear hw5; have HB : Hid (Bs Z (onlyS q)) := hb; clear hb)
    go_ret
    refine ⟨Z, rfl, HB.out.congr (fun r hr => ?_), HA.out⟩
    unfold rdS rdV onlyS
    by_cases e : r = q
    · subst e; simp
    · simp [e]; omega
  -- IArith
  case inr.inr.inl =>
    obtain ⟨h0, h1⟩ := h.rb (.inr rfl)
    obtain ⟨h2, h3⟩ := h.rc rfl
    simp only at h0 h1 h2 h3
    obtain ⟨q, rfl⟩ := Int.eq_ofNat_of_zero_le h0
    obtain ⟨p, rfl⟩ := Int.eq_ofNat_of_zero_le h2
    have hq : q < 16 := by omega
    have hp : p < 16 := by omega
    have b1 := heap_alloc_new w (.cells #[.int .i64 2, .int .i64 a, .int .i64 (q : Int), .int .i64 (p : Int), .int .i64 kk] 39)
    obtain ⟨W, hW⟩ : ∃ W, W = w.alloc (.cells #[.int .i64 2, .int .i64 a, .int .i64 (q : Int), .int .i64 (p : Int), .int .i64 kk] 39) := ⟨_, rfl⟩
    obtain ⟨X, hX⟩ : ∃ X, X = w.heap.size := ⟨_, rfl⟩
    rw [← hW] at b1 hal
    rw [← hX] at b1
    have z2 : W.cell? ⟨X, 2, none⟩ = some (.int .i64 (q : Int)) := (cell_of_heap b1 2).trans rfl
    have z3 : W.cell? ⟨X, 3, none⟩ = some (.int .i64 (p : Int)) := (cell_of_heap b1 3).trans rfl
    have z0 : W.cell? ⟨X, 0, none⟩ = some (.int .i64 2) := (cell_of_heap b1 0).trans rfl
    have HK : Hid (Keeps None w W) := hal
    obtain ⟨Zq, hzq, hbq⟩ := bs_only hq
    obtain ⟨Zp, hzp, hbp⟩ := bs_only hp
    obtain ⟨Z3, ho, hb3⟩ := bs_or hbq hbp
    have HB : Hid (Bs Z3 (orS (onlyS q) (onlyS p))) := hb3
    have HQ : Hid (∀ w', Calls Tryd.prog 51 #[.int .i64 (q : Int)] w' fun e w'' => e = .returned (.int .u16 (Zq : Int)) ∧ w'' = w') := fun w' => (HO.out q w' hq).mono fun e w'' hh => by
      obtain ⟨Z, rfl, hb, rfl⟩ := hh
      have : Z = Zq := bs_eq hb hbq
      subst this
      exact ⟨rfl, rfl⟩
    have HP : Hid (∀ w', Calls Tryd.prog 51 #[.int .i64 (p : Int)] w' fun e w'' => e = .returned (.int .u16 (Zp : Int)) ∧ w'' = w') := fun w' => (HO.out p w' hp).mono fun e w'' hh => by
      obtain ⟨Z, rfl, hb, rfl⟩ := hh
      have : Z = Zp := bs_eq hb hbp
      subst this
      exact ⟨rfl, rfl⟩
    clear h hS h0 h1 h2 h3 hal b1 HA hzq hbq hzp hbp hb3 HO
    go_enter Tryd.func49, Tryd.ntmps49
    go_upto_region 1 with fail
    rw [← hW, ← hX]
    clear hW hX
    go_upto_region 5 with fail
    go_region_held3 (fun w' => w'.cell? ⟨X, 2, none⟩ = some (.int .i64 (q : Int)) ∧ w'.cell? ⟨X, 3, none⟩ = some (.int .i64 (p : Int))) (go_keep) (first | (go_at_call_of 51 (Value.int .i64 (q : Int)); refine Calls.mono (HQ.out _) ?_; rintro _ w5 ⟨rfl, hw5⟩; have hw5' := hw5.symm; subst hw5'; clear hw5) | (go_at_call_of 51 (Value.int .i64 (p : Int)); refine Calls.mono (HP.out _) ?_; rintro _ w6 ⟨rfl, hw6⟩; have hw6' := hw6.symm; subst hw6'; clear hw6))
    all_goals go_wp2_with fail
    all_goals go_ret
    all_goals refine ⟨Z3, rfl, HB.out.congr (fun r hr => ?_), HK.out.andDrew⟩
    all_goals (unfold rdS rdV orS onlyS; by_cases e : r = q <;> by_cases e2 : r = p <;> simp [e, e2] <;> omega)
  -- IJump
  case inr.inr.inr.inl =>
    clear hal h hS
    go_enter Tryd.func49, Tryd.ntmps49
    go_wp2_with fail
    go_ret
    exact ⟨0, rfl, bs_none.congr (fun r hr => rfl), HA.out⟩
  -- IBranch
  case inr.inr.inr.inr.inl =>
    obtain ⟨h0, h1⟩ := h.ra (by simp)
    simp only at h0 h1
    obtain ⟨q, rfl⟩ := Int.eq_ofNat_of_zero_le h0
    have hq : q < 16 := by omega
    clear hal h hS h0 h1
    go_enter Tryd.func49, Tryd.ntmps49
    go_wp2_with (go_at_call 51; refine Calls.mono (HO.out _ _ hq) ?_; rintro _ w5 ⟨Z, rfl, hb, hw5⟩; have hw5' := hw5.symm; subst hw5'; clear hw5; have HB : Hid (Bs Z (onlyS q)) := hb; clear hb)
    go_ret
    refine ⟨Z, rfl, HB.out.congr (fun r hr => ?_), HA.out⟩
    unfold rdS rdV onlyS
    by_cases e : r = q
    · subst e; simp
    · simp [e]; omega
  -- ISpawn
  case inr.inr.inr.inr.inr.inl =>
    obtain ⟨h0, h1, h2, h3, h4⟩ := h.sp rfl
    simp only at h0 h1 h2 h3 h4
    obtain ⟨q, rfl⟩ := Int.eq_ofNat_of_zero_le h0
    have hl := hS.len
    have b1 := heap_alloc_new w (.cells #[.int .i64 5, .int .i64 a, .int .i64 (q : Int), .int .i64 c, .int .i64 kk] 39)
    obtain ⟨W, hW⟩ : ∃ W, W = w.alloc (.cells #[.int .i64 5, .int .i64 a, .int .i64 (q : Int), .int .i64 c, .int .i64 kk] 39) := ⟨_, rfl⟩
    obtain ⟨X, hX⟩ : ∃ X, X = w.heap.size := ⟨_, rfl⟩
    rw [← hW] at b1 hal
    rw [← hX] at b1
    obtain ⟨bf, of, f, ca, cc, rfl, hf, hat⟩ := (hS.more hal).at (show q < n0 by omega)
    have hpar : parV fs (q : Int) = f.params := by unfold parV; simp [hf]
    rw [hpar] at h2 h3 h4
    obtain ⟨np, hnp⟩ := Int.eq_ofNat_of_zero_le h2
    have y0 := hat.params
    rw [hnp] at y0 h4 hpar h3
    have z2 : W.cell? ⟨X, 2, none⟩ = some (.int .i64 (q : Int)) := (cell_of_heap b1 2).trans rfl
    have z3 : W.cell? ⟨X, 3, none⟩ = some (.int .i64 c) := (cell_of_heap b1 3).trans rfl
    have z0 : W.cell? ⟨X, 0, none⟩ = some (.int .i64 5) := (cell_of_heap b1 0).trans rfl
    have i1 : (q : Int) < (n0 : Int) := by omega
    have HK : Hid (Keeps None w W ∧ parV fs (q : Int) = (np : Int)) := ⟨hal, hpar⟩
    have HG : Hid (∀ w', Calls Tryd.prog 70 #[.int .i64 c, .int .i64 (np : Int)] w' fun e w'' => ∃ Z : Nat, e = .returned (.int .u16 (Z : Int)) ∧ Bs Z (argS c np) ∧ w'' = w') := fun w' => arguments_ok c np w' (by omega) (by omega)
    clear h hS h0 h1 h2 h3 h4 hal b1 HA hl hat hpar hnp hf HO
    go_enter Tryd.func49, Tryd.ntmps49
    go_upto_region 1 with fail
    rw [← hW, ← hX]
    clear hW hX
    go_upto_region 10 with fail
    go_region_held3 (fun w' => w'.cell? ⟨X, 2, none⟩ = some (.int .i64 (q : Int)) ∧ w'.cell? ⟨X, 3, none⟩ = some (.int .i64 c) ∧ w'.cell? ⟨bf, of + q * 4, none⟩ = some (.int .i64 (np : Int))) (go_keep) (first | (go_at_call 70; refine Calls.mono (HG.out _) ?_; rintro _ w5 ⟨Z, rfl, hb, hw5⟩; have hw5' := hw5.symm; subst hw5'; clear hw5; have HB : Hid (Bs Z (argS c np)) := hb; clear hb))
    all_goals go_wp2_with fail
    all_goals go_ret
    all_goals refine ⟨Z, rfl, HB.out.congr (fun r hr => ?_), HK.out.1.andDrew⟩
    all_goals (unfold rdS rdV argS; simp only; rw [HK.out.2]; simp)
  -- ISync
  case inr.inr.inr.inr.inr.inr.inl =>
    clear hal h hS
    go_enter Tryd.func49, Tryd.ntmps49
    go_wp2_with fail
    go_ret
    exact ⟨0, rfl, bs_none.congr (fun r hr => rfl), HA.out⟩
  -- ILoad
  case inr.inr.inr.inr.inr.inr.inr.inl =>
    clear hal h hS
    go_enter Tryd.func49, Tryd.ntmps49
    go_wp2_with fail
    go_ret
    exact ⟨0, rfl, bs_none.congr (fun r hr => rfl), HA.out⟩
  -- IPed
  case inr.inr.inr.inr.inr.inr.inr.inr.inl =>
    clear hal h hS
    go_enter Tryd.func49, Tryd.ntmps49
    go_wp2_with fail
    go_ret
    exact ⟨0, rfl, bs_none.congr (fun r hr => rfl), HA.out⟩
  -- IReturn
  case inr.inr.inr.inr.inr.inr.inr.inr.inr =>
    obtain ⟨h0, h1⟩ := h.ra (by simp)
    simp only at h0 h1
    obtain ⟨q, rfl⟩ := Int.eq_ofNat_of_zero_le h0
    have hq : q < 16 := by omega
    clear hal h hS h0 h1
    go_enter Tryd.func49, Tryd.ntmps49
    go_wp2_with (go_at_call 51; refine Calls.mono (HO.out _ _ hq) ?_; rintro _ w5 ⟨Z, rfl, hb, hw5⟩; have hw5' := hw5.symm; subst hw5'; clear hw5; have HB : Hid (Bs Z (onlyS q)) := hb; clear hb)
    go_ret
    refine ⟨Z, rfl, HB.out.congr (fun r hr => ?_), HA.out⟩
    unfold rdS rdV onlyS
    by_cases e : r = q
    · subst e; simp
    · simp [e]; omega
end Go.Proofs.YtoehkjfdaolcnaaDoor
/-! Rows of numbers, and rows of lists of numbers. -/
namespace Go.Proofs.YtoehkjfdaolcnaaDoor
set_option linter.unusedVariables false
set_option maxRecDepth 20000
set_option linter.unusedSimpArgs false
open Go.RowKit Go.HeapKit

theorem row_shapeT {w : World} {base : Nat} {e : TypeId} {size : Nat} {v : Value} {n : Nat} {xs : List Value} (h : w.ownsRow base e size v n xs) : ∃ ao cap, v = .slice ao n cap := by
  rcases h.2 with ⟨rfl, rfl⟩ | ⟨g, cap, cur, rfl, _⟩
  · exact ⟨none, 0, rfl⟩
  · exact ⟨_, cap, rfl⟩
theorem row_baseT {w : World} {base base' : Nat} {e : TypeId} {size : Nat} {v : Value} {n : Nat} {xs : List Value} (h : w.ownsRow base e size v n xs) (hb : base' ≤ base) : w.ownsRow base' e size v n xs := by
  refine ⟨h.1, ?_⟩
  rcases h.2 with h | ⟨g, cap, cur, hv, hbg, r⟩
  · exact .inl h
  · exact .inr ⟨g, cap, cur, hv, Nat.le_trans hb hbg, r⟩
theorem row_lowT {w : World} {base : Nat} {e : TypeId} {size : Nat} {v : Value} {n : Nat} {xs : List Value} (h : w.ownsRow base e size v n xs) {g : Nat} (hg : v.ownBlock = some g) : base ≤ g := by
  rcases h.2 with ⟨rfl, rfl⟩ | ⟨g', cap, cur, rfl, hbg, r⟩
  · simp [Value.ownBlock] at hg
  · simp [Value.ownBlock] at hg; omega
theorem row_keptT {S : Nat → Prop} {w w' : World} {base : Nat} {e : TypeId} {size : Nat} {v : Value} {n : Nat} {xs : List Value} (ho : w.ownsRow base e size v n xs) (h : Keeps S w w') (hS : ∀ g, v.ownBlock = some g → ¬ S g) : w'.ownsRow base e size v n xs := h.own ho hS
theorem row_setT {w : World} {base : Nat} {e : TypeId} {size g n cap : Nat} {xs : List Value} (h : w.ownsRow base e size (.slice (some ⟨g, 0, none⟩) n cap) n xs) (k : Nat) (v : Value) :
    (w.setCell ⟨g, k, none⟩ v).ownsRow base e size (.slice (some ⟨g, 0, none⟩) n cap) n (xs.set k v) := by
  rcases h.2 with ⟨h0, _⟩ | ⟨g', cap', cur, he, hb, hg, hn, hm, hcs, ht⟩
  · cases h0
  · injection he with e1 e2 e3
    injection e1 with e1
    injection e1 with e1
    subst e1 e3
    refine ⟨by simpa using h.1, .inr ⟨g, cap, cur.setIfInBounds k v, rfl, hb, blk_set hg v, hn, hm, by simpa using hcs, ?_⟩⟩
    rw [Array.toList_setIfInBounds, List.take_set, ht]
theorem vals_elemT {w : World} {base : Nat} {e : TypeId} {a : Option Addr} {n c : Nat} {xs : List Value} {k : Nat} {u : Value} (h : w.ownsRow base e 1 (.slice a n c) n xs) (hx : xs[k]? = some u) :
    ∃ g, a = some ⟨g, 0, none⟩ ∧ base ≤ g ∧ g < w.heap.size ∧ n ≤ c ∧ w.cell? ⟨g, k, none⟩ = some u ∧ ∀ i, w.frozen? ⟨g, i, none⟩ = false := by
  have hlen : xs.length = n := by have := h.1; omega
  have hk := (List.getElem?_eq_some_iff.1 hx).1
  rcases h.2 with ⟨_, h1⟩ | ⟨g, cap, cur, hv, hbg, hg, hnc, hcm, hcs, htake⟩
  · omega
  · injection hv with e1 e2 e3
    subst e1 e3
    refine ⟨g, rfl, hbg, (Array.getElem?_eq_some_iff.1 hg).1, hnc, ?_, fun i => blk_free hg i⟩
    rw [blk_cell hg]
    rw [← htake, List.getElem?_take] at hx
    split at hx
    · simpa using hx
    · cases hx

/-- Which numbers stand among the first k of a list. -/
theorem blk_newT (w : World) (o : Obj) (n : Nat) (hn : w.heap.size = n) : (w.alloc o).heap[n]? = some o := by subst hn; exact heap_alloc_new w o
def ivT (l : List Int) : List Value := l.map (Value.int .i64)
theorem iv_lenT (l : List Int) : (ivT l).length = l.length := by simp [ivT]
theorem Tryd.infoIntT : (Tryd.prog.info? 3).map (fun i => (i.zero, i.size, i.bytes)) = some (some (.int .i64 0), 1, 8) := by kernel_rfl
theorem Tryd.infoIntsT : (Tryd.prog.info? 56).map (fun i => (i.zero, i.size, i.bytes)) = some (some (.slice none 0 0), 1, 24) := by kernel_rfl
/-- 'append(l, x)' of a number. -/
theorem int_moreT (base : Nat) (s : Value) (l : List Int) (x : Int) (n ty g0 : Nat) (w : World) (hn : n = l.length) (h : w.ownsRow base 3 1 s n (ivT l)) (hb : base ≤ w.heap.size) (hlen : (n + 1) * 8 ≤ 140737488355328)
    (hg0 : w.heap[g0]? = some (.cells #[.int .i64 x] 3 (0, 0))) :
    ∃ g cap w', (Builtin.append_ #[56, 56] ty #[s, .slice (some ⟨g0, 0, none⟩) 1 1]).run Tryd.prog w = .ok (.slice (some ⟨g, 0, none⟩) (n + 1) cap) w' ∧
      w'.ownsRow base 3 1 (.slice (some ⟨g, 0, none⟩) (n + 1) cap) (n + 1) (ivT (l ++ [x])) ∧ Keeps (fun k => s.ownBlock = some k) w w' ∧ (s.ownBlock = some g ∨ w.heap.size ≤ g) := by
  obtain ⟨i0, hi, hz0, hz1, hz2⟩ := info_parts Tryd.infoIntT
  obtain ⟨v', w1, hr, ho, hgr, hm, -⟩ := run_append_moved (P := Tryd.prog) w base 56 ty 3 i0 _ 1 8 Tryd.underlying56 hi hz0 hz1 hz2 rfl (by decide) s n _ h
    ⟨g0, 0, none⟩ 1 1 [.int .i64 x] rfl (by
      intro j u hu
      rw [show (⟨g0, 0, none⟩ : Addr).add j = ⟨g0, j, none⟩ by unfold Addr.add; split <;> simp_all, blk_cell hg0]
      simpa using hu) (by
      intro u hu
      simp at hu
      subst hu; rfl) (by unfold maxLen; omega) hlen hb
  obtain ⟨g, cap, rfl⟩ : ∃ g cap, v' = .slice (some ⟨g, 0, none⟩) (n + 1) cap := by
    rcases ho.2 with ⟨_, h0⟩ | ⟨b, cap, cur, rfl, _⟩
    · omega
    · exact ⟨b, cap, rfl⟩
  refine ⟨g, cap, w1, hr, by simpa [ivT] using ho, (Keeps.refl _ w).andGrown hgr (fun k e => .inl e), ?_⟩
  rcases hm with hm | ⟨g', e, hg⟩
  · exact .inl (hm.symm.trans rfl)
  · simp [Value.ownBlock] at e; exact .inr (by omega)
/-- n lists of numbers, in rows of their own. -/
structure IsLT (w : World) (base g n : Nat) (vs : Nat → Value) (L : Nat → List Int) : Prop where
  outer : w.heap[g]? = some (.cells ((List.range n).map vs).toArray 56 (0, 0))
  low : base ≤ g
  rows : ∀ k, k < n → w.ownsRow base 3 1 (vs k) (L k).length (ivT (L k))
  apart : ∀ i j b, i < n → j < n → i ≠ j → (vs i).ownBlock = some b → (vs j).ownBlock ≠ some b
theorem IsLT.kept {S : Nat → Prop} {w w' : World} {base g n : Nat} {vs : Nat → Value} {L : Nat → List Int} (h : IsLT w base g n vs L) (hk : Keeps S w w') (hS : ¬ S g) (hR : ∀ k b, k < n → (vs k).ownBlock = some b → ¬ S b) : IsLT w' base g n vs L :=
  ⟨blk_kept h.outer hk hS, h.low, fun k hkn => row_keptT (h.rows k hkn) hk (fun b e => hR k b hkn e), h.apart⟩
theorem IsLT.more {w w' : World} {base g n : Nat} {vs : Nat → Value} {L : Nat → List Int} (h : IsLT w base g n vs L) (hk : Keeps None w w') : IsLT w' base g n vs L := h.kept hk (fun f => f) (fun _ _ _ _ f => f)
/-- Nothing but blocks that are new has been touched. -/
theorem IsLT.below {w w' : World} {base g n B : Nat} {vs : Nat → Value} {L : Nat → List Int} (h : IsLT w base g n vs L) (hk : Keeps (fun i => B ≤ i) w w') (hB : w.heap.size ≤ B) : IsLT w' base g n vs L :=
  h.kept hk (fun e => by have := blk_lt h.outer; omega) (fun k b hkn e hle => by have := own_lt (h.rows k hkn) e; omega)
theorem range_atT {α : Type} (n k : Nat) (O : Nat → α) (hk : k < n) : ((List.range n).map O).toArray[k]? = some (O k) := by
  simp [hk]
theorem range_setT {α : Type} (n k : Nat) (O : Nat → α) (v : α) : (((List.range n).map O).toArray.setIfInBounds k v) = ((List.range n).map (fun j => if j = k then v else O j)).toArray := by
  apply Array.ext
  · simp
  · intro i h1 h2
    by_cases h : k = i
    · simp [h]
    · simp [h, Ne.symm h]
theorem made_oneT (z : Value) (hz : z.cells = #[z]) (n : Nat) : madeCells z.cells n = ((List.range n).map (fun _ => z)).toArray := by
  rw [hz]
  apply Array.ext
  · simp [madeCells]
  · intro i h1 h2
    simp [madeCells, Nat.mod_one]
theorem IsLT.at {w : World} {base g n : Nat} {vs : Nat → Value} {L : Nat → List Int} (h : IsLT w base g n vs L) {k : Nat} (hk : k < n) : w.cell? ⟨g, k, none⟩ = some (vs k) := by
  rw [blk_cell h.outer, range_atT n k _ hk]
theorem IsLT.start (w : World) (base n : Nat) (hb : base ≤ w.heap.size) : IsLT (w.alloc (.cells ((List.range n).map (fun _ => Value.slice none 0 0)).toArray 56)) base w.heap.size n (fun _ => .slice none 0 0) (fun _ => []) :=
  ⟨blk_newT _ _ _ rfl, hb, fun k _ => row_nilT _ _ _ _, fun i j b _ _ _ e => by simp [Value.ownBlock] at e⟩
def updT {α : Type} (f : Nat → α) (k : Nat) (v : α) (j : Nat) : α := if j = k then v else f j
/-- 'ls[k] = append(ls[k], x)', of which the store is still to come. -/
theorem list_moreT {w : World} {base g n : Nat} {vs : Nat → Value} {L : Nat → List Int} (h : IsLT w base g n vs L) (k : Nat) (hk : k < n) (x : Int) (ty g0 : Nat) (hb : base ≤ w.heap.size) (hlen : ((L k).length + 1) * 8 ≤ 140737488355328)
    (hg0 : w.heap[g0]? = some (.cells #[.int .i64 x] 3 (0, 0))) :
    ∃ b cap w', (Builtin.append_ #[56, 56] ty #[vs k, .slice (some ⟨g0, 0, none⟩) 1 1]).run Tryd.prog w = .ok (.slice (some ⟨b, 0, none⟩) ((L k).length + 1) cap) w' ∧ w'.cell? ⟨g, k, none⟩ = some (vs k) ∧ w'.frozen? ⟨g, k, none⟩ = false ∧ Keeps (fun i => (vs k).ownBlock = some i) w w' ∧
      IsLT (w'.setCell ⟨g, k, none⟩ (.slice (some ⟨b, 0, none⟩) ((L k).length + 1) cap)) base g n (updT vs k (.slice (some ⟨b, 0, none⟩) ((L k).length + 1) cap)) (updT L k (L k ++ [x])) ∧ Keeps (fun i => base ≤ i) w (w'.setCell ⟨g, k, none⟩ (.slice (some ⟨b, 0, none⟩) ((L k).length + 1) cap)) ∧ ((vs k).ownBlock = some b ∨ w.heap.size ≤ b) := by
  obtain ⟨b, cap, w', hr, ho, hk2, hm⟩ := int_moreT base (vs k) (L k) x _ ty g0 w rfl (h.rows k hk) hb hlen hg0
  have hng : ∀ j b, j < n → (vs j).ownBlock = some b → b ≠ g := by
    intro j b hj e e2
    subst e2
    exact absurd (own_type (h.rows j hj) e h.outer) (by decide)
  have hgS : ¬ (vs k).ownBlock = some g := fun e => hng k g hk e rfl
  have hbg : b ≠ g := by
    rcases hm with e | e
    · exact hng k b hk e
    · have := blk_lt h.outer; omega
  have ho2 := blk_kept h.outer hk2 hgS
  have hkS : Keeps (· = g) w' (w'.setCell ⟨g, k, none⟩ (.slice (some ⟨b, 0, none⟩) ((L k).length + 1) cap)) := Keeps.setCell (S := (· = g)) w' rfl _
  refine ⟨_, _, w', hr, by rw [blk_cell ho2, range_atT n k _ hk], blk_free ho2 k, hk2, ⟨?_, h.low, fun j hj => ?_, fun i j c hi hj hne e e2 => ?_⟩, ?_, hm⟩
  · rw [blk_set ho2, range_setT]
    rfl
  · by_cases e : j = k
    · subst e
      simp only [updT, if_true]
      have := row_keptT ho hkS (fun c e => by simp [Value.ownBlock] at e; omega)
      simpa using this
    · simp only [updT, if_neg e]
      exact row_keptT (row_keptT (h.rows j hj) hk2 (fun c e1 e2 => h.apart j k c hj hk e e1 e2)) hkS (fun c e1 e2 => hng j c hj e1 e2)
  · by_cases e1 : i = k
    · subst e1
      simp only [updT, if_true, if_neg (Ne.symm hne)] at e e2
      have eb : b = c := by simpa [Value.ownBlock] using e
      rcases hm with e3 | e3
      · exact h.apart i j b hi hj hne e3 (eb ▸ e2)
      · have := own_lt (h.rows j hj) e2; omega
    · by_cases e4 : j = k
      · subst e4
        simp only [updT, if_true, if_neg hne] at e e2
        have eb : b = c := by simpa [Value.ownBlock] using e2
        rcases hm with e3 | e3
        · exact h.apart i j b hi hj hne (eb ▸ e) e3
        · have := own_lt (h.rows i hi) e; omega
      · simp only [updT, if_neg e1, if_neg e4] at e e2
        exact h.apart i j c hi hj hne e e2
  · exact (hk2.mono (fun i e _ => row_lowT (h.rows k hk) e)).trans hkS (fun i e _ => by subst e; exact h.low)
end Go.Proofs.YtoehkjfdaolcnaaDoor
/-! Who goes on at a place: the program's lists. -/
namespace Go.Proofs.YtoehkjfdaolcnaaDoor
set_option linter.unusedVariables false
set_option maxRecDepth 20000
set_option linter.unusedSimpArgs false
open Go.RowKit Go.HeapKit

/-- Code all of whose places go on within it. -/
structure Gd (code : List Ins) : Prop where
  n1 : 1 ≤ code.length
  n2 : code.length ≤ 512
  kind : ∀ (j : Nat) (i : Ins), code[j]? = some i → 0 ≤ i.kind ∧ i.kind < 10
  ways : ∀ (j : Nat) (i : Ins), code[j]? = some i → ∀ a ∈ exitsV j i, 0 ≤ a ∧ a < code.length
theorem make_listsT (n : Nat) (w : World) (hn : n ≤ 4096) : (Instr.makeSlice 48 (.int .i64 n) (.int .i64 n)).run Tryd.prog w = .ok (.slice (some ⟨w.heap.size, 0, none⟩) n n) (w.alloc (.cells ((List.range n).map (fun _ => Value.slice none 0 0)).toArray 56)) := by
  obtain ⟨i0, hi, hz0, hz1, hz2⟩ := info_parts Tryd.infoIntsT
  obtain ⟨M, hM, _, hr⟩ := run_make_block (P := Tryd.prog) (w := w) 48 56 i0 _ 1 24 Tryd.underlying48 hi hz0 hz1 hz2 n (by omega) (by omega)
  rw [made_oneT _ rfl, Nat.mul_one] at hM
  rw [hr, hM]
theorem IsLT.congr {w : World} {base g n : Nat} {vs : Nat → Value} {L L' : Nat → List Int} (h : IsLT w base g n vs L) (e : ∀ k, k < n → L k = L' k) : IsLT w base g n vs L' :=
  ⟨h.outer, h.low, fun k hk => by rw [← e k hk]; exact h.rows k hk, h.apart⟩
/-- Those that go on at a place, while the exits of one are looked at. -/
def cmJ (code : List Ins) (k : Nat) (L : List Int) (q : Nat) : List Int := cmr code q k ++ (L.filter (fun z => decide (z = (q : Int)))).map (fun _ => (k : Int))
theorem cmJ_nil (code : List Ins) (k q : Nat) : cmJ code k [] q = cmr code q k := by simp [cmJ]
theorem cmJ_end {code : List Ins} {k : Nat} {i : Ins} (hi : code[k]? = some i) (q : Nat) : cmJ code k (exitsV k i) q = cmr code q (k + 1) := by
  unfold cmJ
  simp only [cmr]
  rw [hi]
theorem cmJ_more (code : List Ins) (k : Nat) (L : List Int) (t q : Nat) : cmJ code k (L ++ [(t : Int)]) q = updT (fun q => cmJ code k L q) t (cmJ code k L t ++ [(k : Int)]) q := by
  unfold cmJ updT
  by_cases e : q = t
  · subst e
    simp
  · rw [if_neg e, List.filter_append]
    have : ¬ (t : Int) = (q : Int) := by omega
    simp [this]
theorem cmr_len (code : List Ins) (q : Nat) : ∀ k, (cmr code q k).length ≤ 3 * k
  | 0 => Nat.le_refl _
  | k + 1 => by
    have ih := cmr_len code q k
    simp only [cmr, List.length_append]
    cases code[k]? with
    | none => simp; omega
    | some i =>
      simp only [List.length_map]
      have h1 := List.length_filter_le (fun z => decide (z = (q : Int))) (exitsV k i)
      have h2 : (exitsV k i).length ≤ 3 := by
        unfold exitsV
        simp only [List.length_append]
        repeat' split
        all_goals simp
      omega
theorem cmJ_len (code : List Ins) (k : Nat) (L : List Int) (q : Nat) : (cmJ code k L q).length ≤ 3 * k + L.length := by
  unfold cmJ
  simp only [List.length_append, List.length_map]
  have h1 := List.length_filter_le (fun z => decide (z = (q : Int))) L
  have := cmr_len code q k
  omega
theorem own_elem {w : World} {base : Nat} {v : Value} {L : List Int} (h : OwnL w base v L) {k : Nat} {z : Int} (hz : L[k]? = some z) : ∃ g c, v = .slice (some ⟨g, 0, none⟩) L.length c ∧ base ≤ g ∧ g < w.heap.size ∧ w.cell? ⟨g, k, none⟩ = some (.int .i64 z) := by
  obtain ⟨a, c, rfl⟩ := row_shapeT h
  obtain ⟨g, rfl, h1, h2, _, h3, _⟩ := vals_elemT (u := .int .i64 z) h (by rw [List.getElem?_map, hz]; rfl)
  exact ⟨g, c, rfl, h1, h2, h3⟩
set_option maxHeartbeats 4000000 in
theorem comers_ok (ca : Option Addr) (n cc : Nat) (code : List Ins) (w : World) (hC : SeenI w ca n code) (hG : Gd code) :
    Calls Tryd.prog 48 #[.slice ca n cc] w fun e w' => ∃ g vs, e = .returned (.slice (some ⟨g, 0, none⟩) n n) ∧ IsLT w' w.heap.size g n vs (fun q => cmr code q n) ∧ Keeps None w w' := by
  have hl := hC.len
  have h1 := hG.n1
  have h2 := hG.n2
  have hmk := make_listsT n w (by omega)
  have HC : Hid (SeenI w ca n code ∧ Gd code ∧ n = code.length) := ⟨hC, hG, hl⟩
  have hst := IsLT.start w w.heap.size n (Nat.le_refl _)
  have kA := Keeps.alloc None w (.cells ((List.range n).map (fun _ => Value.slice none 0 0)).toArray 56)
  obtain ⟨W, hW⟩ : ∃ W, W = w.alloc (.cells ((List.range n).map (fun _ => Value.slice none 0 0)).toArray 56) := ⟨_, rfl⟩
  obtain ⟨G, hGG⟩ : ∃ G, G = w.heap.size := ⟨_, rfl⟩
  rw [← hW] at hmk hst kA
  rw [← hGG] at hmk hst
  have HS : Hid (IsLT W G G n (fun _ => .slice none 0 0) (fun _ => []) ∧ Keeps None w W ∧ G = w.heap.size) := ⟨hst, kA, hGG⟩
  have hn : n ≤ 512 := by omega
  have hn1 : 1 ≤ n := by omega
  rw [← hGG]
  clear hC hG hl h1 h2 hst kA hW hGG
  go_enter Tryd.func48, Tryd.ntmps48
  go_upto_block 0 with (at_make; refine wpList_make_run rfl (.tmp 9) (.tmp 9) 48 rfl rfl rfl hmk ?_)
  clear hmk
  obtain ⟨n₀, hn₀⟩ : ∃ n₀ : Nat, n₀ = n := ⟨_, rfl⟩
  have HN : Hid (n₀ = n) := hn₀
  clear hn₀
  go_wp2_with fail
  go_loopg [13] n₀ (fun gk s13 wr => ∃ (k : Nat) (vs : Nat → Value), gk + k = n ∧ s13 = .int .i64 k ∧ IsLT wr G G n vs (fun q => cmr code q k) ∧ Keeps None w wr)
  case atStart => exact ⟨0, _, HN.out, rfl, HS.out.1, HS.out.2.1⟩
  case round =>
    obtain ⟨k, vs, hk, rfl, hL, hkp⟩ := hrel
    have HG : Hid (G = w.heap.size) := HS.out.2.2
    clear HS HN
    by_cases hkn : k < n
    · have i1 : (k : Int) < (n : Int) := by omega
      obtain ⟨b, off, i, rfl, hi, hat⟩ := (HC.out.1.more hkp).at hkn
      obtain ⟨y0, y1, y2, y3, y4⟩ := hat
      have kB := Keeps.alloc None wr (.cells #[.int .i64 i.kind, .int .i64 i.a, .int .i64 i.b, .int .i64 i.c, .int .i64 i.k] 39)
      have bB := heap_alloc_new wr (.cells #[.int .i64 i.kind, .int .i64 i.a, .int .i64 i.b, .int .i64 i.c, .int .i64 i.k] 39)
      obtain ⟨W1, hW1⟩ : ∃ W1, W1 = wr.alloc (.cells #[.int .i64 i.kind, .int .i64 i.a, .int .i64 i.b, .int .i64 i.c, .int .i64 i.k] 39) := ⟨_, rfl⟩
      obtain ⟨X, hX⟩ : ∃ X, X = wr.heap.size := ⟨_, rfl⟩
      rw [← hW1] at kB bB
      rw [← hX] at bB
      have H1 : Hid (IsLT W1 G G n vs (fun q => cmr code q k) ∧ Keeps None w W1 ∧ code[k]? = some i) := ⟨hL.more kB, hkp.trans kB (fun _ f _ => f), hi⟩
      have HEX : Hid (Calls Tryd.prog 69 #[.int .i64 (k : Int), .agg #[.int .i64 i.kind, .int .i64 i.a, .int .i64 i.b, .int .i64 i.c, .int .i64 i.k]] W1 fun e w' => ∃ v, e = .returned v ∧ OwnL w' W1.heap.size v (exitsV k i) ∧ Keeps None W1 w') := exits_ok k i W1 (HC.out.2.1.kind k i hi) (by omega)
      have z0 : W1.cell? ⟨X, 0, none⟩ = some (.int .i64 i.kind) := (blk_cell bB 0).trans rfl
      have z1 : W1.cell? ⟨X, 1, none⟩ = some (.int .i64 i.a) := (blk_cell bB 1).trans rfl
      have z2 : W1.cell? ⟨X, 2, none⟩ = some (.int .i64 i.b) := (blk_cell bB 2).trans rfl
      have z3 : W1.cell? ⟨X, 3, none⟩ = some (.int .i64 i.c) := (blk_cell bB 3).trans rfl
      have z4 : W1.cell? ⟨X, 4, none⟩ = some (.int .i64 i.k) := (blk_cell bB 4).trans rfl
      clear hL hkp hi kB bB
      go_upto_region 5 with fail
      rw [← hW1, ← hX]
      clear hW1 hX y0 y1 y2 y3 y4
      obtain ⟨L, hLe⟩ : ∃ L, L = exitsV k i := ⟨_, rfl⟩
      rw [← hLe] at HEX
      have HL : Hid (L = exitsV k i) := hLe
      have hLn : L.length ≤ 3 := by
        rw [hLe]
        unfold exitsV
        simp only [List.length_append]
        repeat' split
        all_goals simp
      clear hLe
      obtain ⟨N, hN⟩ : ∃ N, N = L.length := ⟨_, rfl⟩
      have HNL : Hid (N = L.length) := hN
      rw [← hN] at hLn
      have HE2 : Hid (Calls Tryd.prog 69 #[.int .i64 (k : Int), .agg #[.int .i64 i.kind, .int .i64 i.a, .int .i64 i.b, .int .i64 i.c, .int .i64 i.k]] W1 fun e w' => ∃ a2 c2, e = .returned (.slice a2 N c2) ∧ OwnL w' W1.heap.size (.slice a2 N c2) L ∧ Keeps None W1 w') := HEX.out.mono fun e w' hp => by
        obtain ⟨v, rfl, h1, h2⟩ := hp
        obtain ⟨a2, c2, rfl⟩ := row_shapeT h1
        rw [hN]
        exact ⟨a2, c2, rfl, h1, h2⟩
      clear hN HEX
      go_upto_block 2 with (go_at_call 69; refine Calls.mono HE2.out ?_; rintro _ w2 ⟨a2, c2, rfl, ho2, hk2⟩; have H2 : Hid (OwnL w2 W1.heap.size (.slice a2 N c2) L ∧ Keeps None W1 w2) := ⟨ho2, hk2⟩; clear ho2 hk2)
      clear z0 z1 z2 z3 z4 HE2
      obtain ⟨n₁, hn₁⟩ : ∃ n₁ : Nat, n₁ = N := ⟨_, rfl⟩
      have HN1 : Hid (n₁ = N) := hn₁
      clear hn₁
      go_wp2_with fail
      go_loopg [22] n₁ (fun gj s22 w3 => ∃ (j : Nat) (vs' : Nat → Value), gj + j = N ∧ s22 = .int .i64 j ∧ IsLT w3 G G n vs' (cmJ code k (L.take j)) ∧ OwnL w3 W1.heap.size (.slice a2 N c2) L ∧ (∀ q b, q < n → (vs' q).ownBlock = some b → (Value.slice a2 N c2).ownBlock ≠ some b) ∧ Keeps None w w3)
      case atStart =>
        refine ⟨0, vs, HN1.out, rfl, (H1.out.1.more H2.out.2).congr (fun q _ => (cmJ_nil code k q).symm), H2.out.1, fun q b hq e e2 => ?_, H1.out.2.1.trans H2.out.2 (fun _ f _ => f)⟩
        have h1 := own_lt (H1.out.1.rows q hq) e
        have h2 := row_lowT H2.out.1 e2
        omega
      case round =>
        clear HN1 H2
        obtain ⟨j, vs', hj, rfl, hL3, ho3, hap, hk3⟩ := hrel
        by_cases hjN : j < N
        · have i2 : (j : Int) < (N : Int) := by omega
          obtain ⟨z, hz⟩ : ∃ z, L[j]? = some z := ⟨L[j]'(by have := HNL.out; omega), by simp⟩
          obtain ⟨hz0, hz1⟩ := HC.out.2.1.ways k i H1.out.2.2 z (by rw [← HL.out]; exact List.mem_of_getElem? hz)
          obtain ⟨t, rfl⟩ := Int.eq_ofNat_of_zero_le hz0
          have htn : t < n := by have := HC.out.2.2; omega
          have i3 : (t : Int) < (n : Int) := by omega
          obtain ⟨g2, c2', e2, hb2, hlt2, y0⟩ := own_elem ho3 hz
          injection e2 with e2 e2b e2c
          subst e2
          clear e2b e2c
          have hDk : Keeps None wr (wr.alloc (.cells #[.int .i64 (k : Int)] 3)) := Keeps.alloc None wr _
          have g1 := hL3.at htn
          obtain ⟨vb, vc, w4, hr, u1, u2, hk4, hL4, hk5, hm⟩ := list_moreT (hL3.more hDk) t htn (k : Int) 56 wr.heap.size (by have := hk3.size; have := HG.out; simp; omega) (by have := cmJ_len code k (L.take j) t; have h7 := List.length_take (l := L) (i := j); omega) (blk_newT _ _ _ rfl)
          have hne2 : (vs' t).ownBlock ≠ some g2 := fun e => hap t g2 htn e rfl
          have ho4 : OwnL (w4.setCell ⟨G, t, none⟩ (.slice (some ⟨vb, 0, none⟩) ((cmJ code k (L.take j) t).length + 1) vc)) W1.heap.size (.slice (some ⟨g2, 0, none⟩) N c2) L := by
            have h5 := row_keptT (row_keptT ho3 hDk (fun _ _ f => f)) hk4 (fun g e e2 => by simp [Value.ownBlock] at e; subst e; exact hne2 e2)
            refine row_keptT h5 (Keeps.setCell (S := (· = G)) w4 (a := ⟨G, t, none⟩) rfl _) (fun g e e2 => ?_)
            simp [Value.ownBlock] at e
            have hgG := blk_kept (blk_kept hL3.outer hDk (fun f => f)) hk4 (fun e3 => absurd (own_type ((hL3.more hDk).rows t htn) e3 (blk_kept hL3.outer hDk (fun f => f))) (by decide))
            have h6 := own_type h5 (g := g2) rfl (by rw [e, e2]; exact hgG)
            exact absurd h6 (by decide)
          generalize hln : (cmJ code k (L.take j) t).length + 1 = ln at hr hL4 hk5 ho4
          have HN4 : Hid (IsLT (w4.setCell ⟨G, t, none⟩ (.slice (some ⟨vb, 0, none⟩) ln vc)) G G n (updT vs' t (.slice (some ⟨vb, 0, none⟩) ln vc)) (cmJ code k (L.take (j + 1))) ∧ OwnL (w4.setCell ⟨G, t, none⟩ (.slice (some ⟨vb, 0, none⟩) ln vc)) W1.heap.size (.slice (some ⟨g2, 0, none⟩) N c2) L ∧ (∀ q b, q < n → (updT vs' t (.slice (some ⟨vb, 0, none⟩) ln vc) q).ownBlock = some b → (Value.slice (some ⟨g2, 0, none⟩) N c2).ownBlock ≠ some b) ∧ Keeps None w (w4.setCell ⟨G, t, none⟩ (.slice (some ⟨vb, 0, none⟩) ln vc))) := by
            refine ⟨hL4.congr (fun q hq => ?_), ho4, fun q b hq e e3 => ?_, (hk3.trans hDk (fun _ f _ => f)).trans hk5 (fun i e hi => by have := HG.out; omega)⟩
            · rw [List.take_add_one, hz]
              exact (cmJ_more code k (L.take j) t q).symm
            · by_cases eq : q = t
              · subst eq
                simp only [updT, if_true] at e
                simp [Value.ownBlock] at e e3
                rcases hm with hm | hm
                · exact hne2 (by rw [hm]; congr 1; omega)
                · simp at hm; omega
              · simp only [updT, if_neg eq] at e
                exact hap q b hq e e3
          obtain ⟨sa, sn, cs, hv⟩ : ∃ sa sn cs, vs' t = .slice sa sn cs := by
            obtain ⟨ao, cp, e⟩ := row_shapeT (hL3.rows t htn)
            exact ⟨_, _, _, e⟩
          rw [hv] at hr u1 g1
          have g3 : (wr.alloc (.cells #[.int .i64 (k : Int)] 3)).cell? ⟨G, t, none⟩ = some (.slice sa sn cs) := hDk.cell g1 (fun f => f)
          clear hL3 ho3 hap hk3 hDk hk4 hL4 hk5 hm ho4 hln hz hz0 hz1 hne2 hv
          go_wp2_with (at_builtin; refine wpList_append_run rfl (.tmp 31) (.tmp 33) 56 56 rfl rfl rfl hr ?_)
          go_roundg (gk - 1)
          case measure => omega
          case rel => exact ⟨j + 1, _, by omega, by go_num, HN4.out⟩
        · have hjN2 : j = N := by omega
          subst hjN2
          have i2 : ¬ (j : Int) < (j : Int) := by omega
          have HF : Hid (IsLT wr G G n vs' (fun q => cmr code q (k + 1)) ∧ Keeps None w wr) := by
            refine ⟨hL3.congr (fun q hq => ?_), hk3⟩
            rw [List.take_of_length_le (by have := HNL.out; omega), HL.out]
            exact cmJ_end H1.out.2.2 q
          clear hL3 ho3 hap hk3
          go_wp2_with fail
          go_roundg (n - (k + 1))
          case measure => omega
          case rel => exact ⟨k + 1, vs', by omega, by go_num, HF.out⟩
    · have hkn2 : k = n := by omega
      subst hkn2
      have i1 : ¬ (k : Int) < (k : Int) := by omega
      have HF : Hid (IsLT wr G G k vs (fun q => cmr code q k) ∧ Keeps None w wr) := ⟨hL, hkp⟩
      clear hL hkp
      go_wp2_with fail
      go_ret
      exact ⟨_, rfl, ⟨_, HF.out.1⟩, HF.out.2⟩
end Go.Proofs.YtoehkjfdaolcnaaDoor
/-! Which places are reached: the program's search. -/
namespace Go.Proofs.YtoehkjfdaolcnaaDoor
set_option linter.unusedVariables false
set_option maxRecDepth 20000
set_option linter.unusedSimpArgs false
open Go.RowKit Go.HeapKit

def unM (n : Nat) (met : Nat → Bool) : Nat := (List.range n).countP (fun k => !met k)
theorem unM_put {n : Nat} {met : Nat → Bool} {k : Nat} (hk : k < n) (h : met k = false) : unM n (updT met k true) < unM n met := by
  refine cntP_less (e := k) (fun x hx => ?_) (by simp [h]) (by simp [updT]) (List.mem_range.2 hk)
  simp only [Bool.not_eq_true', updT] at hx ⊢
  split at hx
  · cases hx
  · exact hx
theorem unM_le (n : Nat) (met : Nat → Bool) : unM n met ≤ n := by
  have := List.countP_le_length (p := fun k => !met k) (l := List.range n)
  rw [List.length_range] at this
  exact this
/-- A search that marks what it is going to look at. -/
structure Rm (code : List Ins) (met : Nat → Bool) (op : List Nat) : Prop where
  zero : met 0 = true
  ok : ∀ k, met k = true → k < code.length ∧ Rc code k
  opn : ∀ k ∈ op, met k = true
  closed : ∀ (k k' : Nat) (i : Ins), met k = true → k ∉ op → code[k]? = some i → (k' : Int) ∈ exitsV k i → met k' = true
theorem Rm.full {code : List Ins} {met : Nat → Bool} (h : Rm code met []) (k : Nat) : met k = true ↔ Rc code k := by
  refine ⟨fun hm => (h.ok k hm).2, fun hr => ?_⟩
  induction hr with
  | zero => exact h.zero
  | more _ hi hk ih => exact h.closed _ _ _ ih (by simp) hi hk
/-- While the exits of a place are looked at. -/
structure Rmd (code : List Ins) (k : Nat) (fr : List Int) (met : Nat → Bool) (op : List Nat) : Prop where
  zero : met 0 = true
  ok : ∀ k, met k = true → k < code.length ∧ Rc code k
  opn : ∀ k ∈ op, met k = true
  here : met k = true
  closed : ∀ (k2 k' : Nat) (i : Ins), k2 ≠ k → met k2 = true → k2 ∉ op → code[k2]? = some i → (k' : Int) ∈ exitsV k2 i → met k' = true
  done : ∀ k' : Nat, (k' : Int) ∈ fr → met k' = true
theorem Rmd.start {code : List Ins} {met : Nat → Bool} {op : List Nat} {k : Nat} (h : Rm code met (op ++ [k])) : Rmd code k [] met op :=
  ⟨h.zero, h.ok, fun q hq => h.opn q (List.mem_append_left _ hq), h.opn k (by simp), fun k2 k' i h1 h2 h3 h4 h5 => h.closed k2 k' i h2 (by simp [h1, h3]) h4 h5, fun k' hk => by cases hk⟩
theorem Rmd.skip {code : List Ins} {met : Nat → Bool} {op : List Nat} {k t : Nat} {fr : List Int} (h : Rmd code k fr met op) (ht : met t = true) : Rmd code k (fr ++ [(t : Int)]) met op :=
  ⟨h.zero, h.ok, h.opn, h.here, h.closed, fun k' hk => by
    rcases List.mem_append.1 hk with h1 | h1
    · exact h.done k' h1
    · rw [List.mem_singleton] at h1
      have : k' = t := by omega
      subst this
      exact ht⟩
theorem Rmd.put {code : List Ins} {met : Nat → Bool} {op : List Nat} {k t : Nat} {i : Ins} {fr : List Int} (h : Rmd code k fr met op) (hi : code[k]? = some i) (ht : (t : Int) ∈ exitsV k i) (htn : t < code.length) : Rmd code k (fr ++ [(t : Int)]) (updT met t true) (op ++ [t]) := by
  have mono : ∀ q, met q = true → updT met t true q = true := fun q hq => by
    unfold updT
    split
    · rfl
    · exact hq
  refine ⟨mono 0 h.zero, fun q hq => ?_, fun q hq => ?_, mono k h.here, fun k2 k' i2 a1 a2 a3 a4 a5 => ?_, fun k' hk => ?_⟩
  · by_cases e : q = t
    · subst e
      exact ⟨htn, .more (h.ok k h.here).2 hi ht⟩
    · unfold updT at hq
      rw [if_neg e] at hq
      exact h.ok q hq
  · rcases List.mem_append.1 hq with h1 | h1
    · exact mono q (h.opn q h1)
    · rw [List.mem_singleton] at h1
      subst h1
      simp [updT]
  · have a6 : k2 ≠ t ∧ k2 ∉ op := ⟨fun e => a3 (by simp [e]), fun e => a3 (List.mem_append_left _ e)⟩
    unfold updT at a2
    rw [if_neg a6.1] at a2
    exact mono k' (h.closed k2 k' i2 a1 a2 a6.2 a4 a5)
  · rcases List.mem_append.1 hk with h1 | h1
    · exact mono k' (h.done k' h1)
    · rw [List.mem_singleton] at h1
      have : k' = t := by omega
      subst this
      simp [updT]
theorem Rmd.stop {code : List Ins} {met : Nat → Bool} {op : List Nat} {k : Nat} {i : Ins} (h : Rmd code k (exitsV k i) met op) (hi : code[k]? = some i) : Rm code met op := by
  refine ⟨h.zero, h.ok, h.opn, fun k2 k' i2 a1 a2 a3 a4 => ?_⟩
  by_cases e : k2 = k
  · subst e
    rw [hi] at a3
    injection a3 with a3
    subst a3
    exact h.done k' a4
  · exact h.closed k2 k' i2 e a1 a2 a3 a4
theorem Tryd.infoBoolT : (Tryd.prog.info? 4).map (fun i => (i.zero, i.size, i.bytes)) = some (some (.bool false), 1, 1) := by kernel_rfl
theorem make_boolsT (n : Nat) (w : World) (hn : n ≤ 4096) : (Instr.makeSlice 44 (.int .i64 n) (.int .i64 n)).run Tryd.prog w = .ok (.slice (some ⟨w.heap.size, 0, none⟩) n n) (w.alloc (.cells ((List.range n).map (fun _ => Value.bool false)).toArray 4)) := by
  obtain ⟨i0, hi, hz0, hz1, hz2⟩ := info_parts Tryd.infoBoolT
  obtain ⟨M, hM, _, hr⟩ := run_make_block (P := Tryd.prog) (w := w) 44 4 i0 _ 1 1 Tryd.underlying44 hi hz0 hz1 hz2 n (by omega) (by omega)
  rw [made_oneT _ rfl, Nat.mul_one] at hM
  rw [hr, hM]
/-- A row of bools. -/
def BoolsAt (w : World) (g n : Nat) (met : Nat → Bool) : Prop := w.heap[g]? = some (.cells ((List.range n).map (fun k => Value.bool (met k))).toArray 4 (0, 0))
theorem BoolsAt.cell {w : World} {g n : Nat} {met : Nat → Bool} (h : BoolsAt w g n met) {k : Nat} (hk : k < n) : w.cell? ⟨g, k, none⟩ = some (.bool (met k)) := by
  rw [blk_cell h, range_atT n k _ hk]
theorem BoolsAt.put {w : World} {g n : Nat} {met : Nat → Bool} (h : BoolsAt w g n met) (k : Nat) (b : Bool) : BoolsAt (w.setCell ⟨g, k, none⟩ (.bool b)) g n (updT met k b) := by
  unfold BoolsAt
  rw [blk_set h, range_setT]
  congr 3
  refine List.map_congr_left (fun j _ => ?_)
  unfold updT
  split <;> rfl
theorem own_pop {w : World} {base : Nat} {v : Value} {L : List Int} {z : Int} (h : OwnL w base v (L ++ [z])) : ∃ g c, v = .slice (some ⟨g, 0, none⟩) (L.length + 1) c ∧ w.cell? ⟨g, L.length, none⟩ = some (.int .i64 z) ∧ L.length + 1 ≤ c ∧ OwnL w base (.slice (some ⟨g, 0, none⟩) L.length c) L := by
  obtain ⟨a, c, rfl⟩ := row_shapeT h
  have hl : (L ++ [z]).length = L.length + 1 := by simp
  obtain ⟨g, rfl, h1, h2, h3, h4, _⟩ := vals_elemT (k := L.length) (u := .int .i64 z) h (by simp)
  rcases h.2 with ⟨_, h5⟩ | ⟨g', cap, cur, e, hb, hg, hnc, hcm, hcs, htk⟩
  · omega
  · injection e with e1 e2 e3
    injection e1 with e1
    injection e1 with e1
    subst e1 e3
    refine ⟨g, c, by rw [hl], h4, by omega, ⟨by simp, .inr ⟨g, c, cur, rfl, hb, hg, by omega, hcm, hcs, ?_⟩⟩⟩
    rw [Nat.mul_one] at htk ⊢
    have h6 : cur.toList.take L.length = (cur.toList.take (L ++ [z]).length).take L.length := by rw [List.take_take, Nat.min_eq_left (by omega)]
    rw [h6, htk, List.map_append, List.take_append_of_le_length (by simp), List.take_of_length_le (by simp)]
theorem own_push {w : World} {base : Nat} {v : Value} {L : List Int} (h : OwnL w base v L) (x : Int) (hb : base ≤ w.heap.size) (hl : L.length ≤ 100000) : ∃ g cap w', (Builtin.append_ #[56, 56] 56 #[v, .slice (some ⟨w.heap.size, 0, none⟩) 1 1]).run Tryd.prog (w.alloc (.cells #[.int .i64 x] 3)) = .ok (.slice (some ⟨g, 0, none⟩) (L.length + 1) cap) w' ∧ OwnL w' base (.slice (some ⟨g, 0, none⟩) (L.length + 1) cap) (L ++ [x]) ∧ Keeps (fun k => v.ownBlock = some k) w w' ∧ (v.ownBlock = some g ∨ w.heap.size ≤ g) := by
  obtain ⟨g, cap, w', hr, ho, hk, hm⟩ := int_moreT base v L x L.length 56 w.heap.size (w.alloc (.cells #[.int .i64 x] 3)) rfl (row_keptT h (Keeps.alloc None w _) (fun _ _ f => f)) (by simp; omega) (by omega) (blk_newT _ _ _ rfl)
  refine ⟨g, cap, w', hr, ?_, ((Keeps.alloc None w _).mono (T := fun k => v.ownBlock = some k) (fun _ f _ => f.elim)).trans hk (fun _ e _ => e), ?_⟩
  · unfold OwnL
    rw [List.length_append, List.length_singleton]
    exact ho
  · rcases hm with hm | hm
    · exact .inl hm
    · simp at hm
      exact .inr (by omega)
end Go.Proofs.YtoehkjfdaolcnaaDoor
