import Derived.Test.YtiibflbfnoddmaaDoorPkAG
import Derived.Test.YtiibflbfnoddmaaDoorPkAB
import Derived.Test.YtiibflbfnoddmaaDoorPkAC
import Derived.Recover
import Derived.Defers
/-! What is wrong with an instruction where the slots have these states. -/
namespace Go.Proofs.YtiibflbfnoddmaaDoor
set_option linter.unusedVariables false
set_option maxRecDepth 20000
open Go.RowKit Go.HeapKit

theorem and2_bits (x : Int) (h0 : 0 ≤ x) (h7 : x ≤ 7) : bits BinOp.and .i64 x 2 = if has2 x then 2 else 0 := by
  obtain rfl | rfl | rfl | rfl | rfl | rfl | rfl | rfl : x = 0 ∨ x = 1 ∨ x = 2 ∨ x = 3 ∨ x = 4 ∨ x = 5 ∨ x = 6 ∨ x = 7 := by omega
  all_goals rfl
theorem less_bits (x : Int) (h0 : 0 ≤ x) (h7 : x ≤ 7) : (bits BinOp.andNot .i64 x 4 != 0) = hasLess x := by
  obtain rfl | rfl | rfl | rfl | rfl | rfl | rfl | rfl : x = 0 ∨ x = 1 ∨ x = 2 ∨ x = 3 ∨ x = 4 ∨ x = 5 ∨ x = 6 ∨ x = 7 := by omega
  all_goals rfl
set_option maxHeartbeats 1000000 in
theorem misuse_any (i : Ins) (gr m : Nat) (row : List Int) (w : World) (hb : ∀ (k : Nat) x, row[k]? = some x → w.cell? ⟨gr, k, none⟩ = some (.int .i64 x)) (hl : row.length = m) (h7 : ∀ x ∈ row, 0 ≤ x ∧ x ≤ 7) (hm8 : m ≤ 8)
    (ha : i.kind = 5 → 0 ≤ i.a ∧ i.a < m) (hq : i.kind = 7 → 0 ≤ i.b ∧ i.b < m) :
    Calls Tryd.prog 64 #[insV i, .slice (some ⟨gr, 0, none⟩) m m] w fun e w' => e = .returned (.int .i64 (misuseV i row)) ∧ Keeps None w w' := by
  obtain ⟨ik, ia, ib, ic, iK⟩ := i
  simp only at ha hq
  have hal := Keeps.alloc None w (.cells #[.int .i64 ik, .int .i64 ia, .int .i64 ib, .int .i64 ic, .int .i64 iK] 43)
  have hb2 : ∀ (k : Nat) x, row[k]? = some x → (w.alloc (.cells #[.int .i64 ik, .int .i64 ia, .int .i64 ib, .int .i64 ic, .int .i64 iK] 43)).cell? ⟨gr, k, none⟩ = some (.int .i64 x) := fun k x h => hal.cell (hb k x h) (fun f => f)
  have HB : Hid _ := hb2
  have HL : Hid (row.length = m ∧ ∀ x ∈ row, 0 ≤ x ∧ x ≤ 7) := ⟨hl, h7⟩
  clear hb hl h7 hb2 hal
  unfold insV
  by_cases k5 : ik = 5
  · obtain ⟨a0, a1⟩ := ha k5
    clear ha hq
    subst k5
    obtain ⟨a, rfl⟩ := Int.eq_ofNat_of_zero_le a0
    obtain ⟨x, hx⟩ : ∃ x, row[a]? = some x := ⟨row[a]'(by have := HL.out.1; omega), List.getElem?_eq_getElem _⟩
    have hv : misuseV ⟨5, a, ib, ic, iK⟩ row = if has2 x then 54 else 0 := by simp [misuseV, List.getD_eq_getElem?_getD, hx]
    rw [hv]
    have c0 := HB.out a x hx
    have hx7 := HL.out.2 x (List.mem_of_getElem? hx)
    have hr := and2_bits x hx7.1 hx7.2
    clear hx hx7 hv
    cases hh : has2 x
    all_goals
      rw [hh] at hr
      clear hh
      try simp only [if_true] at hr
      try simp only [Bool.false_eq_true, if_false] at hr
      go_enter Tryd.func64, Tryd.ntmps64
      go_wp2_with fail
      go_ret
      exact ⟨rfl, (Keeps.refl _ _).andAlloc _⟩
  · by_cases k7 : ik = 7
    · obtain ⟨a0, a1⟩ := hq k7
      clear ha hq k5
      subst k7
      obtain ⟨a, rfl⟩ := Int.eq_ofNat_of_zero_le a0
      obtain ⟨x, hx⟩ : ∃ x, row[a]? = some x := ⟨row[a]'(by have := HL.out.1; omega), List.getElem?_eq_getElem _⟩
      have hv : misuseV ⟨7, ia, a, ic, iK⟩ row = if hasLess x then 55 else 0 := by simp [misuseV, List.getD_eq_getElem?_getD, hx]
      rw [hv]
      have c0 := HB.out a x hx
      have hx7 := HL.out.2 x (List.mem_of_getElem? hx)
      have hy := less_bits x hx7.1 hx7.2
      clear hx hx7 hv
      cases hh : hasLess x
      all_goals
        rw [hh] at hy
        clear hh
        have hy2 := hy
        simp only [bne_iff_ne, ne_eq, bne_eq_false_iff_eq] at hy2
        go_enter Tryd.func64, Tryd.ntmps64
        go_wp2_with fail
        go_ret
        exact ⟨rfl, (Keeps.refl _ _).andAlloc _⟩
    · clear ha hq
      by_cases k9 : ik = 9
      · subst k9
        clear k5 k7
        have hv : misuseV ⟨9, ia, ib, ic, iK⟩ row = if row.any has2 then 56 else 0 := by simp [misuseV]
        rw [hv]
        obtain ⟨R, hR⟩ : ∃ R : Int, R = if row.any has2 then 56 else 0 := ⟨_, rfl⟩
        rw [← hR]
        have HR : Hid (R = if row.any has2 then 56 else 0) := hR
        clear hv hR
        obtain ⟨wa, hwa⟩ : ∃ wa, wa = w.alloc (.cells #[.int .i64 9, .int .i64 ia, .int .i64 ib, .int .i64 ic, .int .i64 iK] 43) := ⟨_, rfl⟩
        have HK : Hid (Keeps None w wa) := by rw [hwa]; exact Keeps.alloc None w _
        have HB2 : Hid (∀ (k : Nat) x, row[k]? = some x → wa.cell? ⟨gr, k, none⟩ = some (.int .i64 x)) := by rw [hwa]; exact HB.out
        clear HB
        go_enter Tryd.func64, Tryd.ntmps64
        go_wp2_with fail
        rw [← hwa]
        clear hwa
        go_loop [31] (fun s31 => ∃ k : Nat, k ≤ m ∧ s31 = .int .i64 k ∧ ∀ (j : Nat) x, j < k → row[j]? = some x → has2 x = false) (fun i => m - (intOf i).toNat)
        case atStart => exact ⟨0, Nat.zero_le _, rfl, fun j _ h => by omega⟩
        case round =>
          obtain ⟨k, hk, rfl, hall⟩ := hrel
          by_cases hkm : k < m
          · have i1 : (k : Int) < (m : Int) := by omega
            obtain ⟨x, hx⟩ : ∃ x, row[k]? = some x := ⟨row[k]'(by have := HL.out.1; omega), List.getElem?_eq_getElem _⟩
            have c0 := HB2.out k x hx
            have hx7 := HL.out.2 x (List.mem_of_getElem? hx)
            have hr := and2_bits x hx7.1 hx7.2
            have HA : Hid ((∀ (j : Nat) x, j < k → row[j]? = some x → has2 x = false) ∧ row[k]? = some x) := ⟨hall, hx⟩
            clear hx hx7 hall
            cases hh : has2 x with
            | true =>
              rw [hh] at hr
              have HH : Hid (has2 x = true) := hh
              clear hh
              simp only [if_true] at hr
              go_wp2_with fail
              go_ret
              rw [HR.out, if_pos (List.any_eq_true.2 ⟨x, List.mem_of_getElem? HA.out.2, HH.out⟩)]
              exact ⟨rfl, HK.out⟩
            | false =>
              rw [hh] at hr
              have HH : Hid (has2 x = false) := hh
              clear hh
              simp only [Bool.false_eq_true, if_false] at hr
              go_wp2_with fail
              refine ⟨⟨k + 1, by omega, by simp, fun j y hj hy => ?_⟩, by simp [intOf]; omega⟩
              by_cases e : j = k
              · subst e
                rw [HA.out.2] at hy
                obtain rfl := Option.some.inj hy
                exact HH.out
              · exact HA.out.1 j y (by omega) hy
          · have i1 : ¬ ((k : Int) < (m : Int)) := by omega
            have HA : Hid (row.any has2 = false) := by
              unfold Hid
              rw [List.any_eq_false]
              intro x hx
              obtain ⟨j, hj, rfl⟩ := List.mem_iff_getElem.1 hx
              rw [hall j _ (by have := HL.out.1; omega) (List.getElem?_eq_getElem hj)]
              simp
            clear hall
            go_wp2_with fail
            go_ret
            rw [HR.out, HA.out]
            exact ⟨rfl, HK.out⟩
      · have hv : misuseV ⟨ik, ia, ib, ic, iK⟩ row = 0 := by simp [misuseV, k5, k7, k9]
        rw [hv]
        have q5 : (ik == 5) = false := by simpa using k5
        have q7 : (ik == 7) = false := by simpa using k7
        have q9 : (ik == 9) = false := by simpa using k9
        clear hv
        go_enter Tryd.func64, Tryd.ntmps64
        go_wp2_with fail
        go_ret
        exact ⟨rfl, (Keeps.refl _ _).andAlloc _⟩
end Go.Proofs.YtiibflbfnoddmaaDoor
/-! The search, plainly: what is met is closed under the steps. -/
namespace Go.Proofs.YtiibflbfnoddmaaDoor
set_option linter.unusedVariables false
set_option maxRecDepth 20000

theorem code_parts {al : Bool} {fs : List Fn} {f : Fn} (h : codeFault al fs f = none) : (∀ (j : Nat) i, f.code[j]? = some i → fitsV al fs f i = true) ∧ runsOut f = false := by
  unfold codeFault at h
  split at h
  · cases h
  · rename_i h1
    refine ⟨fun j i hi => ?_, ?_⟩
    · have := firstAt_all _ f.code 0 h1 j i hi
      by_cases hv : fitsV al fs f i = true
      · exact hv
      · simp [hv] at this
    · cases hr : runsOut f
      · rfl
      · rw [hr] at h; cases h
theorem fits_kind {al : Bool} {fs : List Fn} {f : Fn} {i : Ins} (h : fitsV al fs f i = true) : 0 ≤ i.kind ∧ i.kind < 10 := by
  simp only [fitsV, Bool.and_eq_true] at h
  exact (belowV_iff _ _).1 h.1.1
theorem fits_ways {al : Bool} {fs : List Fn} {f : Fn} {i : Ins} (h : fitsV al fs f i = true) : allowsV al fs f (fA i.kind.toNat) i.a i = true ∧ allowsV al fs f (fB i.kind.toNat) i.b i = true ∧ allowsV al fs f (fC i.kind.toNat) i.c i = true := by
  simp only [fitsV, Bool.and_eq_true] at h
  exact ⟨h.2.1.1, h.2.1.2, h.2.2⟩
theorem good_of {al : Bool} {fs : List Fn} {f : Fn} (hs : shapeV f = true) (h : codeFault al fs f = none) : Good f := by
  obtain ⟨hf, hr⟩ := code_parts h
  have hsh : 1 ≤ f.code.length ∧ f.code.length ≤ 512 := by
    simp only [shapeV, Bool.and_eq_true, decide_eq_true_eq] at hs
    omega
  refine ⟨hsh.1, hsh.2, fun j i hi => fits_kind (hf j i hi), fun j i hi a ha => ?_⟩
  have hj := (List.getElem?_eq_some_iff.1 hi).1
  obtain ⟨w1, w2, w3⟩ := fits_ways (hf j i hi)
  simp only [exitsV, List.mem_append] at ha
  rcases ha with (ha | ha) | ha
  · split at ha
    · rename_i hn
      simp at ha
      subst ha
      have : j ≠ f.code.length - 1 := by
        rintro rfl
        unfold runsOut at hr
        rw [hi] at hr
        simp only at hr
        rw [hn] at hr
        cases hr
      omega
    · cases ha
  · split at ha
    · rename_i hn
      simp at ha
      subst ha
      rw [hn] at w1
      simp [allowsV, belowV] at w1
      exact w1
    · cases ha
  · split at ha
    · rename_i hn
      simp at ha
      subst ha
      rw [hn] at w2
      simp [allowsV, belowV] at w2
      exact w2
    · cases ha

theorem ptIx_inj {n : Nat} {p q : Pt} (hp : PtOk n p) (hq : PtOk n q) (h : ptIx p = ptIx q) : p = q := by
  obtain ⟨p1, p2⟩ := p
  obtain ⟨q1, q2⟩ := q
  obtain ⟨h1, h2, h3⟩ := hp
  obtain ⟨k1, k2, k3⟩ := hq
  unfold ptIx at h
  simp only at *
  have : p1 = q1 := by omega
  have : p2 = q2 := by omega
  simp_all
theorem met_set {n : Nat} {fr : List Pt} {p q here : Pt} (hp : PtOk n p) (hq : PtOk n q) (hl : fr.length = n * 5) (hh : here.2 ≠ 0) : metV (fr.set (ptIx p) here) q = true ↔ q = p ∨ metV fr q = true := by
  have hlt := ptIx_lt hp
  by_cases e : ptIx p = ptIx q
  · have := ptIx_inj hp hq e
    subst this
    simp [metV, List.getD, hl, hlt, hh]
  · have : q ≠ p := fun h => e (by rw [h])
    have e2 : (fr.set (ptIx p) here).getD (ptIx q) (0, 0) = fr.getD (ptIx q) (0, 0) := by rw [List.getD_eq_getElem?_getD, List.getElem?_set_ne e, ← List.getD_eq_getElem?_getD]
    unfold metV
    rw [e2]
    exact ⟨.inr, fun h => h.resolve_left this⟩

/-- What a visit does: nothing is forgotten, all is met, what is new lies in the queue. -/
structure Visited (n : Nat) (st : Int) (L : List Int) (fr op fr' op' : List Pt) : Prop where
  mono : ∀ p, PtOk n p → metV fr p = true → metV fr' p = true
  all : ∀ a ∈ L, metV fr' (a, st) = true
  new : ∀ p, PtOk n p → metV fr' p = true → metV fr p = true ∨ p ∈ op'
  old : ∀ p ∈ op, p ∈ op'
  qmet : (∀ p ∈ op, metV fr p = true) → ∀ p ∈ op', metV fr' p = true
theorem visit_closed (n : Nat) (goal here : Pt) (st : Int) (hst : st = 1 ∨ st = 2 ∨ st = 4) (hh : here.2 ≠ 0) : ∀ (L : List Int) (fr op : List Pt), (∀ a ∈ L, 0 ≤ a ∧ a < n) → Seeks n fr op →
    (visit goal here st L fr op).2.2 = false → Visited n st L fr op (visit goal here st L fr op).1 (visit goal here st L fr op).2.1
  | [], fr, op, _, h, _ => ⟨fun _ _ m => m, fun _ h => (by cases h), fun _ _ m => .inl m, fun _ m => m, fun q => q⟩
  | a :: r, fr, op, hL, h, hb => by
    have ha := hL a (List.mem_cons_self ..)
    have hp : PtOk n (a, st) := ⟨ha.1, ha.2, hst⟩
    have hr : ∀ b ∈ r, 0 ≤ b ∧ b < n := fun b hb => hL b (List.mem_cons_of_mem _ hb)
    unfold visit at hb ⊢
    split at hb
    · rename_i hm
      rw [if_pos hm]
      have ih := visit_closed n goal here st hst hh r fr op hr h hb
      refine ⟨ih.mono, fun b hb => ?_, ih.new, ih.old, ih.qmet⟩
      rcases List.mem_cons.1 hb with rfl | hb
      · exact ih.mono _ hp hm
      · exact ih.all b hb
    · rename_i hm
      rw [if_neg hm]
      split at hb
      · cases hb
      · rename_i hg
        rw [if_neg hg]
        have h2 : Seeks n (fr.set (ptIx (a, st)) here) (op ++ [(a, st)]) := ⟨by simpa using h.len, fun p hp' => by
          rcases List.mem_append.1 hp' with hq | hq
          · exact h.op p hq
          · simp at hq; subst hq; exact hp⟩
        have ih := visit_closed n goal here st hst hh r _ _ hr h2 hb
        refine ⟨fun p ok m => ih.mono p ok ((met_set hp ok h.len hh).2 (.inr m)), fun b hb => ?_, fun p ok m => ?_, fun p m => ih.old p (List.mem_append_left _ m), fun q => ih.qmet fun p m => ?_⟩
        · rcases List.mem_cons.1 hb with rfl | hb
          · exact ih.mono _ hp ((met_set hp hp h.len hh).2 (.inl rfl))
          · exact ih.all b hb
        · rcases ih.new p ok m with m | m
          · rcases (met_set hp ok h.len hh).1 m with rfl | m
            · exact .inr (ih.old _ (by simp))
            · exact .inl m
          · exact .inr m
        · rcases List.mem_append.1 m with m | m
          · exact (met_set hp (h.op p m) h.len hh).2 (.inr (q p m))
          · simp at m; subst m; exact (met_set hp hp h.len hh).2 (.inl rfl)

/-- Of every point that is met and not waiting, all that follows is met. -/
def ClosedBut (f : Fn) (slot : Int) (fr op : List Pt) : Prop := ∀ p i, PtOk f.code.length p → metV fr p = true → p ∉ op → f.code[p.1.toNat]? = some i → ∀ a ∈ exitsV p.1 i, metV fr (a, afterV i slot p.2) = true
theorem visit_free (n : Nat) (here : Pt) (st : Int) (hst : st = 1 ∨ st = 2 ∨ st = 4) : ∀ (L : List Int) (fr op : List Pt), (visit (0, 0) here st L fr op).2.2 = false
  | [], _, _ => rfl
  | a :: r, fr, op => by
    unfold visit
    have hne : ¬ (a, st) = ((0 : Int), (0 : Int)) := by simp; omega
    split
    · exact visit_free n here st hst r fr op
    · first
        | exact visit_free n here st hst r _ _
        | (rw [if_neg hne]; exact visit_free n here st hst r _ _)
theorem run_closed (f : Fn) (slot : Int) (hG : Good f) : ∀ (k : Nat) (fr op : List Pt), Seeks f.code.length fr op → (∀ p ∈ op, metV fr p = true) → 2 * blanks fr + op.length ≤ k → ClosedBut f slot fr op →
    ClosedBut f slot (runS f slot (0, 0) k fr op) [] ∧ (∀ p, PtOk f.code.length p → metV fr p = true → metV (runS f slot (0, 0) k fr op) p = true) ∧ (runS f slot (0, 0) k fr op).length = f.code.length * 5
  | 0, fr, op, hS, hq, hk, hC => by
    have : op = [] := List.eq_nil_of_length_eq_zero (by omega)
    subst this
    exact ⟨hC, fun _ _ m => m, hS.len⟩
  | k + 1, fr, [], hS, hq, hk, hC => ⟨hC, fun _ _ m => m, hS.len⟩
  | k + 1, fr, h :: t, hS, hq, hk, hC => by
    have hok := hS.op h (List.mem_cons_self ..)
    obtain ⟨i, hi⟩ : ∃ i, f.code[h.1.toNat]? = some i := ⟨f.code[h.1.toNat]'(by have := hok.a0; have := hok.a1; omega), by simp⟩
    have hst := after_st i slot h.2 hok.st
    have h0 : h.2 ≠ 0 := by have := hok.st; omega
    have hw : ∀ a ∈ exitsV h.1 i, 0 ≤ a ∧ a < f.code.length := fun a ha => hG.ways h.1.toNat i hi a (by rw [Int.toNat_of_nonneg hok.a0]; exact ha)
    have hS' : Seeks f.code.length fr t := ⟨hS.len, fun p hp => hS.op p (List.mem_cons_of_mem _ hp)⟩
    have hfr := visit_free f.code.length h _ hst (exitsV h.1 i) fr t
    have v1 := visit_ok f.code.length (0, 0) h _ hst h0 (exitsV h.1 i) fr t hw hS'
    have v2 := visit_closed f.code.length (0, 0) h _ hst h0 (exitsV h.1 i) fr t hw hS' hfr
    unfold runS
    rw [hi]
    simp only
    generalize visit (0, 0) h (afterV i slot h.2) (exitsV h.1 i) fr t = V at hfr v1 v2
    obtain ⟨fr', op', b⟩ := V
    simp only at hfr v1 v2
    subst hfr
    simp only
    have hC' : ClosedBut f slot fr' op' := by
      intro p j ok m hn hj a ha
      rcases v2.new p ok m with m | m
      · by_cases e : p = h
        · subst e
          rw [hi] at hj
          obtain rfl := Option.some.inj hj
          exact v2.all a ha
        · have ok' := hG.ways p.1.toNat j hj a (by rw [Int.toNat_of_nonneg ok.a0]; exact ha)
          exact v2.mono _ ⟨ok'.1, ok'.2, after_st j slot p.2 ok.st⟩ (hC p j ok m (fun hm => by
            rcases List.mem_cons.1 hm with hm | hm
            · exact e hm
            · exact hn (v2.old p hm)) hj a ha)
      · exact absurd m hn
    have ih := run_closed f slot hG k fr' op' v1.1 (v2.qmet (fun p hp => hq p (List.mem_cons_of_mem _ hp))) (by simp only [List.length_cons] at hk; omega) hC'
    exact ⟨ih.1, fun p ok m => ih.2.1 p ok (v2.mono p ok m), ih.2.2⟩
theorem fr0_len (n : Nat) : (fr0 n).length = n * 5 := by simp [fr0]
theorem fr0_met {n : Nat} {p : Pt} (hn : 1 ≤ n) (hp : PtOk n p) : metV (fr0 n) p = true ↔ p = (0, 1) := by
  have h1 : PtOk n (0, 1) := ⟨by simp, by simp; omega, .inl rfl⟩
  have := met_set (fr := List.replicate (n * 5) (0, 0)) (here := (0, 1)) h1 hp (by simp) (by simp)
  unfold fr0
  rw [show (1 : Nat) = ptIx (0, 1) from rfl, this]
  have h0 : metV (List.replicate (n * 5) (0, 0)) p = false := by
    unfold metV
    rw [List.getD_eq_getElem?_getD, List.getElem?_replicate]
    split <;> simp
  simp [h0]
/-- The whole search: the start is met, and what is met is closed. -/
theorem search_closed {f : Fn} (hG : Good f) (slot : Int) : ClosedBut f slot (searchV f slot (0, 0)) [] ∧ metV (searchV f slot (0, 0)) (0, 1) = true ∧ (searchV f slot (0, 0)).length = f.code.length * 5 := by
  have n1 := hG.n1
  have h1 : PtOk f.code.length (0, 1) := ⟨by simp, by simp; omega, .inl rfl⟩
  have hb := blanks_le (fr0 f.code.length)
  have hl := fr0_len f.code.length
  have := run_closed f slot hG (f.code.length * 10 + 2) (fr0 f.code.length) [(0, 1)] ⟨hl, fun p hp => by simp at hp; subst hp; exact h1⟩ (fun p hp => by simp at hp; subst hp; exact (fr0_met n1 h1).2 rfl)
    (by simp only [List.length_cons, List.length_nil]; omega) (fun p i ok m hn => by exact absurd ((fr0_met n1 ok).1 m) (by simpa using hn))
  exact ⟨this.1, this.2.1 _ h1 ((fr0_met n1 h1).2 rfl), this.2.2⟩
end Go.Proofs.YtiibflbfnoddmaaDoor
/-! Verified code does not go wrong, plainly. -/
namespace Go.Proofs.YtiibflbfnoddmaaDoor
set_option linter.unusedVariables false
set_option maxRecDepth 20000

/-- No point has the state 0 or 3. -/
def Bare (n : Nat) (fr : List Pt) : Prop := ∀ a s, a < n → (s = 0 ∨ s = 3) → (fr.getD (a * 5 + s) (0, 0)).2 = 0
theorem Bare.set {n : Nat} {fr : List Pt} {p here : Pt} (h : Bare n fr) (hp : PtOk n p) : Bare n (fr.set (ptIx p) here) := by
  intro a s ha hs
  have : ptIx p ≠ a * 5 + s := by
    obtain ⟨h1, h2, h3⟩ := hp
    unfold ptIx
    omega
  rw [List.getD_eq_getElem?_getD, List.getElem?_set_ne this, ← List.getD_eq_getElem?_getD]
  exact h a s ha hs
theorem visit_bare (n : Nat) (goal here : Pt) (st : Int) (hst : st = 1 ∨ st = 2 ∨ st = 4) : ∀ (L : List Int) (fr op : List Pt), (∀ a ∈ L, 0 ≤ a ∧ a < n) → Bare n fr → Bare n (visit goal here st L fr op).1
  | [], fr, op, _, h => h
  | a :: r, fr, op, hL, h => by
    have ha := hL a (List.mem_cons_self ..)
    have hp : PtOk n (a, st) := ⟨ha.1, ha.2, hst⟩
    have hr : ∀ b ∈ r, 0 ≤ b ∧ b < n := fun b hb => hL b (List.mem_cons_of_mem _ hb)
    unfold visit
    split
    · exact visit_bare n goal here st hst r fr op hr h
    · split
      · exact h.set hp
      · exact visit_bare n goal here st hst r _ _ hr (h.set hp)
theorem run_bare (f : Fn) (slot : Int) (goal : Pt) (hG : Good f) : ∀ (k : Nat) (fr op : List Pt), Seeks f.code.length fr op → Bare f.code.length fr → Bare f.code.length (runS f slot goal k fr op)
  | 0, fr, op, hS, h => h
  | k + 1, fr, [], hS, h => h
  | k + 1, fr, p :: t, hS, hB => by
    have hok := hS.op p (List.mem_cons_self ..)
    obtain ⟨i, hi⟩ : ∃ i, f.code[p.1.toNat]? = some i := ⟨f.code[p.1.toNat]'(by have := hok.a0; have := hok.a1; omega), by simp⟩
    have hst := after_st i slot p.2 hok.st
    have h0 : p.2 ≠ 0 := by have := hok.st; omega
    have hw : ∀ a ∈ exitsV p.1 i, 0 ≤ a ∧ a < f.code.length := fun a ha => hG.ways p.1.toNat i hi a (by rw [Int.toNat_of_nonneg hok.a0]; exact ha)
    have hS' : Seeks f.code.length fr t := ⟨hS.len, fun q hq => hS.op q (List.mem_cons_of_mem _ hq)⟩
    have v1 := visit_ok f.code.length goal p _ hst h0 (exitsV p.1 i) fr t hw hS'
    have v2 := visit_bare f.code.length goal p _ hst (exitsV p.1 i) fr t hw hB
    unfold runS
    rw [hi]
    simp only
    generalize visit goal p (afterV i slot p.2) (exitsV p.1 i) fr t = V at v1 v2
    obtain ⟨fr', op', b⟩ := V
    cases b
    · exact run_bare f slot goal hG k fr' op' v1.1 v2
    · exact v2
theorem fr0_bare (n : Nat) (hn : 1 ≤ n) : Bare n (fr0 n) := by
  unfold fr0
  refine Bare.set (p := (0, 1)) ?_ ⟨by simp, by simp; omega, .inl rfl⟩
  intro a s ha hs
  rw [List.getD_eq_getElem?_getD, List.getElem?_replicate]
  split <;> simp
theorem search_bare {f : Fn} (hG : Good f) (slot : Int) (goal : Pt) : Bare f.code.length (searchV f slot goal) := by
  have n1 := hG.n1
  exact run_bare f slot goal hG _ _ _ ⟨fr0_len _, fun p hp => by simp at hp; subst hp; exact ⟨by simp, by simp; omega, .inl rfl⟩⟩ (fr0_bare _ n1)
theorem sum_at {n : Nat} {fr : List Pt} (h : Bare n fr) (a : Nat) (ha : a < n) : sumAt fr a = (if metV fr (a, 1) then 1 else 0) + (if metV fr (a, 2) then 2 else 0) + (if metV fr (a, 4) then 4 else 0) := by
  have h0 := h a 0 ha (.inl rfl)
  have h3 := h a 3 ha (.inr rfl)
  unfold sumAt
  rw [show List.range 5 = [0, 1, 2, 3, 4] from rfl]
  simp only [List.foldl_cons, List.foldl_nil]
  rw [h0, h3]
  have e1 : metV fr (a, 1) = decide ((fr.getD (a * 5 + 1) (0, 0)).2 ≠ 0) := by simp [metV, ptIx]
  have e2 : metV fr (a, 2) = decide ((fr.getD (a * 5 + 2) (0, 0)).2 ≠ 0) := by simp [metV, ptIx]
  have e4 : metV fr (a, 4) = decide ((fr.getD (a * 5 + 4) (0, 0)).2 ≠ 0) := by simp [metV, ptIx]
  rw [e1, e2, e4]
  generalize (fr.getD (a * 5 + 1) (0, 0)).2 = x
  generalize (fr.getD (a * 5 + 2) (0, 0)).2 = y
  generalize (fr.getD (a * 5 + 4) (0, 0)).2 = z
  by_cases hx : x = 0 <;> by_cases hy : y = 0 <;> by_cases hz : z = 0 <;> simp [hx, hy, hz]
theorem sum_has2 {n : Nat} {fr : List Pt} (h : Bare n fr) (a : Nat) (ha : a < n) : has2 (sumAt fr a) = metV fr (a, 2) := by
  rw [sum_at h a ha]
  cases metV fr (a, 1) <;> cases metV fr (a, 2) <;> cases metV fr (a, 4) <;> rfl
theorem sum_less {n : Nat} {fr : List Pt} (h : Bare n fr) (a : Nat) (ha : a < n) : hasLess (sumAt fr a) = (metV fr (a, 1) || metV fr (a, 2)) := by
  rw [sum_at h a ha]
  cases metV fr (a, 1) <;> cases metV fr (a, 2) <;> cases metV fr (a, 4) <;> rfl

/-- What a walk knows: where it is, what its slots are (0 empty, 1 pending, 2 full). -/
def bitV (s : Int) : Int := if s = 0 then 1 else if s = 1 then 2 else 4
structure Along (f : Fn) (at_ : Int) (sl : List Int) : Prop where
  len : sl.length = 8
  a0 : 0 ≤ at_
  a1 : at_ < f.code.length
  met : ∀ s : Nat, (s : Int) < f.slots → metV (searchV f s (0, 0)) (at_, bitV (sl.getD s 0)) = true
  off : ∀ s : Nat, f.slots ≤ s → sl.getD s 0 = 0
  is3 : ∀ x ∈ sl, x = 0 ∨ x = 1 ∨ x = 2
structure Valid (fs : List Fn) (f : Fn) : Prop where
  shape : shapeV f = true
  code : codeFault false fs f = none
  slot : slotFault f = none
theorem check_valid {fs : List Fn} (h : checkV fs = (0, 0, 0)) : 1 ≤ fs.length ∧ fs.length ≤ 32 ∧ ∀ f ∈ fs, Valid fs f := by
  unfold checkV at h
  split at h
  · simp at h
  · rename_i hl
    split at h
    · simp at h
    · rename_i h1
      split at h
      · rename_i r hr
        obtain ⟨k, x, _, _, hg, _⟩ := firstAt_was _ _ _ _ hr
        unfold codeFault at hg
        split at hg
        · have := (Option.some.inj hg)
          rw [← this] at h
          simp at h
        · split at hg
          · have := (Option.some.inj hg)
            rw [← this] at h
            simp at h
          · cases hg
      · rename_i h2
        split at h
        · rename_i r hr
          obtain ⟨k, x, _, _, hg, _⟩ := firstAt_was _ _ _ _ hr
          unfold slotFault at hg
          simp only [Option.map_eq_some_iff] at hg
          obtain ⟨q, hq, e⟩ := hg
          obtain ⟨k2, y, _, _, hg2, _⟩ := firstAt_was _ _ _ _ hq
          split at hg2
          · cases hg2
          · rename_i hne
            have := Option.some.inj hg2
            rw [← e] at h
            simp at h
            rw [← this] at h
            exact absurd h.1 hne
        · rename_i h3
          refine ⟨by omega, by omega, fun f hf => ?_⟩
          obtain ⟨k, hk, rfl⟩ := List.mem_iff_getElem.1 hf
          have e : fs[k]? = some fs[k] := by simp
          refine ⟨?_, firstAt_all _ _ _ h2 k _ e, firstAt_all _ _ _ h3 k _ e⟩
          have := firstAt_all _ _ _ h1 k _ e
          by_cases hv : shapeV fs[k] = true
          · exact hv
          · simp [hv] at this
theorem slot_ok {f : Fn} (h : slotFault f = none) (k : Nat) (i : Ins) (hi : f.code[k]? = some i) : misuseV i (rowV f k) = 0 := by
  unfold slotFault at h
  simp only [Option.map_eq_none_iff] at h
  have := firstAt_all _ _ _ h k i hi
  simp only [Nat.zero_add] at this
  by_cases hv : misuseV i (rowV f k) = 0
  · exact hv
  · simp [hv] at this
theorem row_at {f : Fn} (k s : Nat) (hs : (s : Int) < f.slots) : (rowV f k)[s]? = some (sumAt (searchV f s (0, 0)) k) := by
  unfold rowV
  rw [List.getElem?_map, List.getElem?_range (by omega)]
  rfl
theorem row_get {f : Fn} (k s : Nat) (hs : (s : Int) < f.slots) : (rowV f k).getD s 0 = sumAt (searchV f s (0, 0)) k := by
  rw [List.getD_eq_getElem?_getD, row_at k s hs]; rfl

/-- The statement's 'clean'. -/
def cleanV (i : Ins) (sl : List Int) : Bool :=
  if i.kind = 5 then decide (sl.getD i.a.toNat 0 ≠ 1) else if i.kind = 7 then decide (sl.getD i.b.toNat 0 = 2) else if i.kind = 9 then sl.all (fun x => decide (x ≠ 1)) else true
/-- The statement's 'steps'. -/
def syncV (sl : List Int) : List Int := sl.map (fun x => if x = 1 then 2 else x)
def stepSl (i : Ins) (sl : List Int) : List Int := if i.kind = 5 then sl.set i.a.toNat 1 else if i.kind = 6 then syncV sl else sl
def stepAt (i : Ins) (at_ : Int) (turn : Bool) : Int := if i.kind = 3 then i.a else if i.kind = 4 ∧ turn then i.b else at_ + 1

theorem along_start {f : Fn} (hG : Good f) (h0 : 0 ≤ f.slots) : Along f 0 (List.replicate 8 0) := by
  have := hG.n1
  refine ⟨by simp, by omega, by omega, fun s hs => ?_, fun s hs => ?_, fun x hx => ?_⟩
  · have e : (List.replicate 8 (0 : Int)).getD s 0 = 0 := by
      rw [List.getD_eq_getElem?_getD, List.getElem?_replicate]; split <;> rfl
    rw [e]
    exact (search_closed hG s).2.1
  · rw [List.getD_eq_getElem?_getD, List.getElem?_replicate]; split <;> rfl
  · left; exact List.eq_of_mem_replicate hx
theorem kinds {i : Ins} (h0 : 0 ≤ i.kind) (h1 : i.kind < 10) : i.kind = 0 ∨ i.kind = 1 ∨ i.kind = 2 ∨ i.kind = 3 ∨ i.kind = 4 ∨ i.kind = 5 ∨ i.kind = 6 ∨ i.kind = 7 ∨ i.kind = 8 ∨ i.kind = 9 := by omega
theorem bit_st (x : Int) : bitV x = 1 ∨ bitV x = 2 ∨ bitV x = 4 := by
  unfold bitV; split; · simp
  split <;> simp
theorem along_clean {fs : List Fn} {f : Fn} {at_ : Int} {sl : List Int} {i : Ins} (hV : Valid fs f) (h : Along f at_ sl) (hi : f.code[at_.toNat]? = some i) : cleanV i sl = true := by
  have hG := good_of hV.shape hV.code
  have hf := (code_parts hV.code).1 _ _ hi
  have hm := slot_ok hV.slot _ _ hi
  obtain ⟨w1, w2, w3⟩ := fits_ways hf
  have hk := fits_kind hf
  have hlt : at_.toNat < f.code.length := by have := h.a0; have := h.a1; omega
  have hat : ((at_.toNat : Nat) : Int) = at_ := Int.toNat_of_nonneg h.a0
  unfold cleanV
  split
  · rename_i h5
    rw [h5] at w1
    have w1' : belowV i.a f.slots = true := w1
    obtain ⟨b0, b1⟩ := (belowV_iff _ _).1 w1'
    simp only [misuseV, h5, if_true] at hm
    rw [row_get _ i.a.toNat (by omega), sum_has2 (search_bare hG _ _) _ hlt, hat] at hm
    have hmet := h.met i.a.toNat (by omega)
    simp only [decide_eq_true_eq]
    intro e
    rw [e] at hmet
    have : bitV 1 = 2 := rfl
    rw [this] at hmet
    rw [hmet] at hm
    simp at hm
  · split
    · rename_i h7
      rw [h7] at w2
      have w2' : belowV i.b f.slots = true := w2
      obtain ⟨b0, b1⟩ := (belowV_iff _ _).1 w2'
      simp only [misuseV, h7, if_true] at hm
      rw [row_get _ i.b.toNat (by omega), sum_less (search_bare hG _ _) _ hlt, hat] at hm
      have hmet := h.met i.b.toNat (by omega)
      simp only [decide_eq_true_eq]
      have hx : sl.getD i.b.toNat 0 = 0 ∨ sl.getD i.b.toNat 0 = 1 ∨ sl.getD i.b.toNat 0 = 2 := by
        rw [List.getD_eq_getElem?_getD]
        cases hq : sl[i.b.toNat]? with
        | none => simp
        | some x => exact h.is3 x (List.mem_of_getElem? hq)
      rcases hx with hx | hx | hx
      · rw [hx] at hmet
        have : bitV 0 = 1 := rfl
        rw [this] at hmet
        rw [hmet] at hm
        simp at hm
      · rw [hx] at hmet
        have : bitV 1 = 2 := rfl
        rw [this] at hmet
        rw [hmet] at hm
        simp at hm
      · exact hx
    · split
      · rename_i h9
        simp only [misuseV, h9] at hm
        simp at hm
        rw [List.all_eq_true]
        intro x hx
        simp only [decide_eq_true_eq]
        rintro rfl
        obtain ⟨s, hs, e⟩ := List.mem_iff_getElem.1 hx
        have e2 : sl.getD s 0 = 1 := by rw [List.getD_eq_getElem?_getD, List.getElem?_eq_getElem hs, e]; rfl
        by_cases hsl : (s : Int) < f.slots
        · have hmet := h.met s hsl
          rw [e2] at hmet
          have : bitV 1 = 2 := rfl
          rw [this] at hmet
          have hr := hm _ (List.mem_of_getElem? (row_at at_.toNat s hsl))
          rw [sum_has2 (search_bare hG _ _) _ hlt, hat, hmet] at hr
          cases hr
        · have := h.off s (by omega)
          omega
      · rfl
/-- A step that does not end the walk. -/
theorem along_step {fs : List Fn} {f : Fn} {at_ : Int} {sl : List Int} {i : Ins} (hV : Valid fs f) (h : Along f at_ sl) (hi : f.code[at_.toNat]? = some i) (turn : Bool) (h9 : i.kind ≠ 9) : Along f (stepAt i at_ turn) (stepSl i sl) := by
  have hG := good_of hV.shape hV.code
  have hf := (code_parts hV.code).1 _ _ hi
  obtain ⟨w1, w2, w3⟩ := fits_ways hf
  have hk := fits_kind hf
  have hat : ((at_.toNat : Nat) : Int) = at_ := Int.toNat_of_nonneg h.a0
  have hmem : stepAt i at_ turn ∈ exitsV at_ i := by
    unfold stepAt exitsV
    rcases kinds hk.1 hk.2 with e | e | e | e | e | e | e | e | e | e
    all_goals first
      | exact absurd e h9
      | (cases turn <;> (rw [e]; simp [fN, fA, fB]); done)
      | skip
  have hw := hG.ways _ _ hi _ (by rw [hat]; exact hmem)
  have hsh : 0 ≤ f.slots ∧ f.slots ≤ 8 := by
    have := hV.shape
    simp only [shapeV, Bool.and_eq_true, decide_eq_true_eq] at this
    omega
  refine ⟨?_, hw.1, hw.2, fun s hs => ?_, fun s hs => ?_, fun x hx => ?_⟩
  · unfold stepSl
    split
    · simp [h.len]
    · split
      · simp [syncV, h.len]
      · exact h.len
  · have hc := (search_closed hG s).1 (at_, bitV (sl.getD s 0)) i ⟨h.a0, h.a1, bit_st _⟩ (h.met s hs) (by simp) hi _ hmem
    have e : afterV i s (bitV (sl.getD s 0)) = bitV ((stepSl i sl).getD s 0) := by
      have hslen : s < sl.length := by rw [h.len]; omega
      unfold afterV stepSl
      by_cases h5 : i.kind = 5
      · rw [if_pos h5]
        rw [h5] at w1
        have w1' : belowV i.a f.slots = true := w1
        obtain ⟨b0, b1⟩ := (belowV_iff _ _).1 w1'
        by_cases ha : i.a = s
        · rw [if_pos ⟨h5, ha⟩, ha]
          simp [hslen, bitV]
        · rw [if_neg (fun q => ha q.2), if_neg (by omega)]
          have : (sl.set i.a.toNat 1).getD s 0 = sl.getD s 0 := by rw [List.getD_eq_getElem?_getD, List.getElem?_set_ne (by omega), ← List.getD_eq_getElem?_getD]
          rw [this]
      · rw [if_neg h5, if_neg (fun q => h5 q.1)]
        by_cases h6 : i.kind = 6
        · rw [if_pos h6]
          have e1 : (syncV sl).getD s 0 = (if sl.getD s 0 = 1 then 2 else sl.getD s 0) := by
            unfold syncV
            simp [List.getD_eq_getElem?_getD, List.getElem?_eq_getElem hslen]
          rw [e1]
          have hx : sl.getD s 0 = 0 ∨ sl.getD s 0 = 1 ∨ sl.getD s 0 = 2 := by
            rw [List.getD_eq_getElem?_getD, List.getElem?_eq_getElem hslen]
            exact h.is3 _ (List.getElem_mem _)
          rcases hx with hx | hx | hx <;> rw [hx] <;> simp [h6, bitV]
        · rw [if_neg h6, if_neg (fun q => h6 q.1)]
    rw [← e]
    exact hc
  · unfold stepSl
    split
    · rename_i h5
      rw [h5] at w1
      have w1' : belowV i.a f.slots = true := w1
      obtain ⟨b0, b1⟩ := (belowV_iff _ _).1 w1'
      rw [List.getD_eq_getElem?_getD, List.getElem?_set_ne (by omega), ← List.getD_eq_getElem?_getD]
      exact h.off s hs
    · split
      · have := h.off s hs
        unfold syncV
        rw [List.getD_eq_getElem?_getD] at this ⊢
        rw [List.getElem?_map]
        cases hq : sl[s]? with
        | none => rfl
        | some x => rw [hq] at this; simp at this; simp [this]
      · exact h.off s hs
  · unfold stepSl at hx
    split at hx
    · rcases List.mem_or_eq_of_mem_set hx with hx | rfl
      · exact h.is3 x hx
      · simp
    · split at hx
      · unfold syncV at hx
        obtain ⟨y, hy, rfl⟩ := List.mem_map.1 hx
        have := h.is3 y hy
        split <;> omega
      · exact h.is3 x hx
end Go.Proofs.YtiibflbfnoddmaaDoor
/-! What a function does to its slots. -/
namespace Go.Proofs.YtiibflbfnoddmaaDoor
set_option linter.unusedVariables false
set_option maxRecDepth 20000
open Go.RowKit Go.HeapKit

def slotsE (number : Int) (f : Fn) : Ending := match slotFault f with
  | some r => .panicked (thrown r.1 number r.2)
  | none => .returned (.tuple #[])
theorem sum_seven {n : Nat} {fr : List Pt} (h : Bare n fr) (a : Nat) (ha : a < n) : 0 ≤ sumAt fr a ∧ sumAt fr a ≤ 7 := by
  rw [sum_at h a ha]
  cases metV fr (a, 1) <;> cases metV fr (a, 2) <;> cases metV fr (a, 4) <;> decide
theorem row_len (f : Fn) (k m : Nat) (hm : (m : Int) = f.slots) : (rowV f k).length = m := by simp [rowV]; omega
theorem row_seven {f : Fn} (hG : Good f) (k : Nat) (hk : k < f.code.length) : ∀ x ∈ rowV f k, 0 ≤ x ∧ x ≤ 7 := by
  intro x hx
  unfold rowV at hx
  obtain ⟨s, _, rfl⟩ := List.mem_map.1 hx
  exact sum_seven (search_bare hG _ _) k hk
theorem row_cells {w : World} {f : Fn} {g n m : Nat} (hm : (m : Int) = f.slots) (h : IsM w g n m n (fun k s => sumAt (searchV f s (0, 0)) k)) (k : Nat) (hk : k < n) : ∀ (s : Nat) x, (rowV f k)[s]? = some x → w.cell? ⟨g + 1 + k, s, none⟩ = some (.int .i64 x) := by
  intro s x hx
  have hs : s < m := by have := (List.getElem?_eq_some_iff.1 hx).1; rw [row_len f k m hm] at this; exact this
  rw [row_at k s (by omega)] at hx
  obtain rfl := Option.some.inj hx
  exact h.cell hk hs
set_option maxHeartbeats 1000000 in
theorem slots_any (number : Int) (f : Fn) (ca : Option Addr) (cc : Nat) (w : World) (al : Bool) (fs : List Fn) (hT : Tabs w) (hC : SeenI w ca f.code.length f.code) (hsh : shapeV f = true) (hcf : codeFault al fs f = none) :
    Calls Tryd.prog 50 #[.int .i64 number, fnV f ca cc] w fun e w' => e = slotsE number f ∧ Keeps None w w' := by
  have hG := good_of hsh hcf
  have hfit := (code_parts hcf).1
  have hsl : 0 ≤ f.slots ∧ f.slots ≤ 8 := by
    simp only [shapeV, Bool.and_eq_true, decide_eq_true_eq] at hsh
    omega
  obtain ⟨n, hn⟩ : ∃ n, n = f.code.length := ⟨_, rfl⟩
  obtain ⟨m, hm⟩ : ∃ m : Nat, (m : Int) = f.slots := ⟨f.slots.toNat, by omega⟩
  have hm8 : m ≤ 8 := by omega
  have hfl := fun (wx : World) (hk : Keeps None w wx) => flow_any f ca cc wx (hT.more hk) (hC.more hk) hG n m hn hm hm8
  unfold fnV at hfl ⊢
  rw [← hn] at hfl hC ⊢
  have n2 : n ≤ 512 := by have := hG.n2; omega
  have HG : Hid (Good f ∧ n = f.code.length ∧ (m : Int) = f.slots ∧ SeenI w ca n f.code ∧ ∀ (j : Nat) i, f.code[j]? = some i → fitsV al fs f i = true) := ⟨hG, hn, hm, hC, hfit⟩
  have HF : Hid _ := hfl
  obtain ⟨B, hB⟩ : ∃ B, B = w.heap.size := ⟨_, rfl⟩
  clear hG hfit hsl hn hm hC hfl hsh hcf hT
  have hal := Keeps.alloc None w (.cells #[.int .i64 f.params, .int .i64 f.regs, .int .i64 f.slots, .slice ca n cc] 41)
  have b1 := heap_alloc_new w (.cells #[.int .i64 f.params, .int .i64 f.regs, .int .i64 f.slots, .slice ca n cc] 41)
  have hc := HF.out _ hal
  have HA : Hid (Keeps None w (w.alloc _) ∧ (w.alloc _).heap[B]? = _) := ⟨hal, hB ▸ b1⟩
  clear hal b1
  go_enter Tryd.func50, Tryd.ntmps50
  go_wp2_with (go_at_call 63; refine hc.mono ?_; rintro e w2 ⟨g, rfl, hM, hk2, hg⟩)
  have H2 : Hid (IsM w2 g n m n (fun k s => sumAt (searchV f s (0, 0)) k) ∧ Keeps None w w2 ∧ w2.heap[B]? = some (.cells #[.int .i64 f.params, .int .i64 f.regs, .int .i64 f.slots, .slice ca n cc] 41 (0, 0))) := ⟨hM, HA.out.1.trans hk2 (fun _ f _ => f), blk_kept HA.out.2 hk2 (fun f => f)⟩
  clear hM hk2 hg hc
  rw [← hB]
  clear hB
  go_loopw [10] (fun s10 wr => ∃ k : Nat, k ≤ n ∧ s10 = .int .i64 k ∧ (∀ (j : Nat) x, j < k → f.code[j]? = some x → misuseV x (rowV f j) = 0) ∧ IsM wr g n m n (fun k s => sumAt (searchV f s (0, 0)) k) ∧ Keeps None w wr ∧ wr.heap[B]? = some (.cells #[.int .i64 f.params, .int .i64 f.regs, .int .i64 f.slots, .slice ca n cc] 41 (0, 0))) (fun i _ => n - (intOf i).toNat)
  case atStart => exact ⟨0, Nat.zero_le _, rfl, fun q _ h => by omega, H2.out.1, H2.out.2.1, H2.out.2.2⟩
  case round =>
    obtain ⟨k, hk, rfl, hall, hM, hkp, hbx⟩ := hrel
    by_cases hkn : k < n
    · obtain ⟨b, off, x, rfl, hx, hat⟩ := (HG.out.2.2.2.1.more hkp).at hkn
      obtain ⟨y0, y1, y2, y3, y4⟩ := hat
      have d3 := (cell_of_heap hbx 3).trans rfl
      have i1 : (k : Int) < (n : Int) := by omega
      have r0 := hM.row hkn hkn
      have hfx := HG.out.2.2.2.2 k x hx
      have hkd := fits_kind hfx
      have hwy := fits_ways hfx
      have hmu := misuse_any x (g + 1 + k) m (rowV f k) wr (row_cells HG.out.2.2.1 hM k hkn) (row_len f k m HG.out.2.2.1) (row_seven HG.out.1 k (by have := HG.out.2.1; omega)) hm8
        (fun e => by
          have h1 := hwy.1
          rw [e] at h1
          have h2 : belowV x.a f.slots = true := h1
          have := (belowV_iff _ _).1 h2
          have := HG.out.2.2.1
          omega)
        (fun e => by
          have h1 := hwy.2.1
          rw [e] at h1
          have h2 : belowV x.b f.slots = true := h1
          have := (belowV_iff _ _).1 h2
          have := HG.out.2.2.1
          omega)
      unfold insV at hmu
      obtain ⟨e, he⟩ : ∃ e, e = misuseV x (rowV f k) := ⟨_, rfl⟩
      rw [← he] at hmu
      have HK : Hid ((∀ (j : Nat) x, j < k → f.code[j]? = some x → misuseV x (rowV f j) = 0) ∧ f.code[k]? = some x ∧ e = misuseV x (rowV f k) ∧ IsM wr g n m n (fun k s => sumAt (searchV f s (0, 0)) k) ∧ Keeps None w wr ∧ wr.heap[B]? = some (.cells #[.int .i64 f.params, .int .i64 f.regs, .int .i64 f.slots, .slice (some ⟨b, off, none⟩) n cc] 41 (0, 0))) := ⟨hall, hx, he, hM, hkp, hbx⟩
      clear hall hx he hM hkp hbx hfx hkd hwy
      by_cases he0 : e = 0
      · subst he0
        go_wp2_with (go_at_call 64; refine hmu.mono ?_; rintro e w3 ⟨rfl, hk3⟩)
        refine ⟨⟨k + 1, by omega, by simp, fun j z hj hz => ?_, HK.out.2.2.2.1.kept hk3 (fun _ _ f => f), HK.out.2.2.2.2.1.trans hk3 (fun _ f _ => f), blk_kept HK.out.2.2.2.2.2 hk3 (fun f => f)⟩, by simp [intOf]; omega⟩
        by_cases hjk : j = k
        · subst hjk
          rw [HK.out.2.1] at hz
          obtain rfl := Option.some.inj hz
          exact HK.out.2.2.1.symm
        · exact HK.out.1 j z (by omega) hz
      · have he1 : (e != 0) = true := by simpa using he0
        go_wp2_with (first | (go_at_call 64; refine hmu.mono ?_; rintro e w3 ⟨rfl, hk3⟩) | (go_at_call 60; refine (giveUp_any _ _ _ _).mono ?_; rintro e w' ⟨rfl, hw⟩; have hw2 := hw.symm; subst hw2))
        refine ⟨rfl, ?_, HK.out.2.2.2.2.1.trans hk3 (fun _ f _ => f)⟩
        unfold slotsE slotFault
        rw [firstAt_some _ f.code 0 k x e HK.out.2.1 (fun j y hj hy => by rw [Nat.zero_add, if_pos (HK.out.1 j y hj hy)]) (by rw [Nat.zero_add, ← HK.out.2.2.1, if_neg he0])]
        simp
    · have i1 : ¬ ((k : Int) < (n : Int)) := by omega
      have HK : Hid ((∀ (j : Nat) x, j < k → f.code[j]? = some x → misuseV x (rowV f j) = 0) ∧ Keeps None w wr) := ⟨hall, hkp⟩
      clear hall hkp hM hbx
      go_wp2_with fail
      go_end0
      refine ⟨?_, HK.out.2⟩
      unfold slotsE slotFault
      rw [firstAt_none _ f.code 0 (fun j y hy => by
        have := (List.getElem?_eq_some_iff.1 hy).1
        have := HG.out.2.1
        rw [Nat.zero_add, if_pos (HK.out.1 j y (by omega) hy)])]
      rfl
end Go.Proofs.YtiibflbfnoddmaaDoor
/-! The shapes of all functions; the code of one. -/
namespace Go.Proofs.YtiibflbfnoddmaaDoor
set_option linter.unusedVariables false
set_option maxRecDepth 20000
open Go.RowKit Go.HeapKit

theorem fits_any (number : Int) (f : Fn) (ca : Option Addr) (cc : Nat) (fa : Option Addr) (fn fc : Nat) (i : Ins) (w : World) (fs : List Fn) (hT : Tabs w) (hS : SeenF w fa fn fs) (hi : i.Ok) (hr : 0 ≤ f.regs ∧ f.regs ≤ 16) :
    Calls Tryd.prog 62 #[codeV number f ca cc fa fn fc false, insV i] w fun e w' => e = .returned (.bool (fitsV false fs f i)) ∧ Keeps None w w' := by
  cases hb : belowV i.kind 10 with
  | false =>
    have : fitsV false fs f i = false := by simp [fitsV, hb]
    rw [this]
    exact fits_no number f ca cc fa fn fc false i w hb
  | true =>
    obtain ⟨ik, ia, ib, ic, iK⟩ := i
    have hb' := (belowV_iff _ _).1 hb
    simp only at hb'
    obtain ⟨k, rfl⟩ := Int.eq_ofNat_of_zero_le hb'.1
    have hk : k < 10 := by omega
    have hv : fitsV false fs f ⟨k, ia, ib, ic, iK⟩ = (!(decide (fK k = 6) && (decide (iK < 0) || decide (16 ≤ iK))) && (allowsV false fs f (fA k) ia ⟨k, ia, ib, ic, iK⟩ && allowsV false fs f (fB k) ib ⟨k, ia, ib, ic, iK⟩ && allowsV false fs f (fC k) ic ⟨k, ia, ib, ic, iK⟩)) := by
      simp only [fitsV]
      rw [hb]
      simp
    rw [hv]
    have n5a : ∀ k, k < 10 → fA k ≠ 5 := by decide
    have n5b : ∀ k, k < 10 → fB k ≠ 5 := by decide
    have c5 : ∀ k, k < 10 → fC k = 5 → fB k = 4 := by decide
    refine fits_some number f ca cc fa fn fc k ia ib ic iK w hT hk _ _ _ _ _ rfl rfl ?_ ?_ ?_
    · exact fun wx hx => allows_any number f ca cc fa fn fc _ _ _ wx fs (hS.more hx) (fun h => absurd h (n5a k hk)) hr hi.a
    · exact fun _ wx hx => allows_any number f ca cc fa fn fc _ _ _ wx fs (hS.more hx) (fun h => absurd h (n5b k hk)) hr hi.b
    · intro _ hob wx hx
      refine allows_any number f ca cc fa fn fc _ _ _ wx fs (hS.more hx) (fun h => ?_) hr hi.c
      rw [c5 k hk h] at hob
      have hl := hS.len
      simp [allowsV, belowV] at hob
      simp only
      omega

def shapesE (fs : List Fn) : Ending :=
  if fs.length < 1 ∨ 32 < fs.length then .panicked (thrown 50 0 0) else match firstAt (fun _ f => if shapeV f then none else some ()) fs 0 with
    | some r => .panicked (thrown 51 r.1 0)
    | none => .returned (.tuple #[])
theorem shapes_any (fa : Option Addr) (n fc : Nat) (fs : List Fn) (w : World) (hS : SeenF w fa n fs) :
    Calls Tryd.prog 48 #[.slice fa n fc] w fun e w' => e = shapesE fs ∧ Keeps None w w' := by
  have HS : Hid (SeenF w fa n fs) := hS
  have hl := hS.len
  have HL : Hid (n = fs.length) := hl
  clear hl hS
  by_cases h1 : n < 1
  · have h1' : (n : Int) < 1 := by omega
    go_enter Tryd.func48, Tryd.ntmps48
    go_wp2_with (go_at_call 60; refine (giveUp_any _ _ _ _).mono ?_; rintro e w' ⟨rfl, rfl⟩)
    refine ⟨rfl, ?_, Keeps.refl _ _⟩
    have := HL.out
    unfold shapesE
    rw [if_pos (by omega)]
  · have h1' : (1 : Int) ≤ n := by omega
    by_cases h2 : 32 < n
    · have h2' : (32 : Int) < n := by omega
      go_enter Tryd.func48, Tryd.ntmps48
      go_wp2_with (go_at_call 60; refine (giveUp_any _ _ _ _).mono ?_; rintro e w' ⟨rfl, rfl⟩)
      refine ⟨rfl, ?_, Keeps.refl _ _⟩
      have := HL.out
      unfold shapesE
      rw [if_pos (by omega)]
    · have h2' : (n : Int) ≤ 32 := by omega
      go_enter Tryd.func48, Tryd.ntmps48
      go_wp2_with fail
      go_loopw [15] (fun i wr => ∃ k : Nat, k ≤ n ∧ i = .int .i64 k ∧ (∀ j f, j < k → fs[j]? = some f → shapeV f = true) ∧ Keeps None w wr) (fun i _ => n - (intOf i).toNat)
      case atStart => exact ⟨0, Nat.zero_le _, rfl, fun q _ h => by omega, Keeps.refl _ _⟩
      case round =>
        obtain ⟨k, hk, rfl, hall, hkp⟩ := hrel
        by_cases hkn : k < n
        · obtain ⟨b, off, f, ca, cc, rfl, hf, hat⟩ := (HS.out.more hkp).at hkn
          obtain ⟨y0, y1, y2, y3, -⟩ := hat
          have i1 : (k : Int) < (n : Int) := by omega
          have HK : Hid (Keeps None w wr ∧ fs[k]? = some f ∧ ∀ j f, j < k → fs[j]? = some f → shapeV f = true) := ⟨hkp, hf, hall⟩
          clear hf hkp hall
          have hc := shape_any (k : Int) f ca cc
          unfold shapeE fnV at hc
          cases hv : shapeV f with
          | false =>
            rw [hv] at hc
            simp only [Bool.false_eq_true, if_false] at hc
            have HV : Hid (shapeV f = false) := hv
            clear hv
            go_wp2_with (go_at_call 61; refine (hc _).mono ?_; rintro e w2 ⟨rfl, hk2⟩)
            refine ⟨rfl, ?_, (HK.out.1.andAlloc _).trans hk2 (fun _ f _ => f)⟩
            have := HL.out
            unfold shapesE
            rw [if_neg (by omega), firstAt_some _ fs 0 k f () HK.out.2.1 (fun j y hj hy => by rw [HK.out.2.2 j y hj hy]; rfl) (by rw [HV.out]; rfl)]
            simp
          | true =>
            rw [hv] at hc
            simp only [if_true] at hc
            have HV : Hid (shapeV f = true) := hv
            clear hv
            go_wp2_with (go_at_call 61; refine (hc _).mono ?_; rintro e w2 ⟨rfl, hk2⟩)
            refine ⟨⟨k + 1, by omega, by simp, fun j g hj hg => ?_, (HK.out.1.andAlloc _).trans hk2 (fun _ f _ => f)⟩, by simp [intOf]; omega⟩
            by_cases hjk : j = k
            · subst hjk
              rw [HK.out.2.1] at hg
              obtain rfl := Option.some.inj hg
              exact HV.out
            · exact HK.out.2.2 j g (by omega) hg
        · have i1 : ¬ ((k : Int) < (n : Int)) := by omega
          go_wp2_with fail
          go_end0
          refine ⟨?_, hkp⟩
          have := HL.out
          unfold shapesE
          rw [if_neg (by omega), firstAt_none _ fs 0 (fun j y hy => by rw [hall j y (by have := (List.getElem?_eq_some_iff.1 hy).1; omega) hy]; rfl)]

def codeE (number : Int) (al : Bool) (fs : List Fn) (f : Fn) : Ending := match codeFault al fs f with
  | some r => .panicked (thrown r.1 number r.2)
  | none => .returned (.tuple #[])
set_option maxHeartbeats 1000000 in
theorem code_any (number : Int) (f : Fn) (ca : Option Addr) (cc : Nat) (fa : Option Addr) (fn fc : Nat) (w : World) (fs : List Fn) (hT : Tabs w) (hS : SeenF w fa fn fs) (hC : SeenI w ca f.code.length f.code) (hok : ∀ i ∈ f.code, i.Ok) (hsh : shapeV f = true) :
    Calls Tryd.prog 49 #[codeV number f ca cc fa fn fc false] w fun e w' => e = codeE number false fs f ∧ Keeps None w w' := by
  have hsh2 : (0 ≤ f.regs ∧ f.regs ≤ 16) ∧ 1 ≤ f.code.length ∧ f.code.length ≤ 512 := by
    simp only [shapeV, Bool.and_eq_true, decide_eq_true_eq] at hsh
    omega
  obtain ⟨n, hn⟩ : ∃ n, n = f.code.length := ⟨_, rfl⟩
  have hfit := fun (i : Ins) (hi : i ∈ f.code) (wx : World) (hk : Keeps None w wx) => fits_any number f ca cc fa fn fc i wx fs (hT.more hk) (hS.more hk) (hok i hi) hsh2.1
  unfold codeV at hfit
  rw [← hn] at hfit
  have HF : Hid _ := hfit
  have HC : Hid (SeenI w ca n f.code) := hn ▸ hC
  have HH : Hid (1 ≤ n ∧ n ≤ 512 ∧ n = f.code.length ∧ Tabs w) := ⟨by omega, by omega, hn, hT⟩
  have h1' : (1 : Int) ≤ n := by omega
  have h2' : (n : Int) ≤ 512 := by omega
  unfold codeV
  rw [← hn]
  obtain ⟨B, hB⟩ : ∃ B, B = w.heap.size := ⟨_, rfl⟩
  have HB : Hid (B = w.heap.size) := hB
  clear hfit hC hok hsh hsh2 hT hS hn
  go_enter Tryd.func49, Tryd.ntmps49
  go_wp2_with fail
  rw [← hB]
  clear hB
  go_loopw [9] (fun i wr => ∃ k : Nat, k ≤ n ∧ i = .int .i64 k ∧ (∀ j x, j < k → f.code[j]? = some x → fitsV false fs f x = true) ∧ wr.heap[B]? = some (.cells #[.int .i64 number, .int .i64 f.params, .int .i64 f.regs, .int .i64 f.slots, .slice ca n cc, .slice fa fn fc, .bool false] 73 (0, 0)) ∧ Keeps None w wr) (fun i _ => n - (intOf i).toNat)
  case atStart => exact ⟨0, Nat.zero_le _, rfl, fun q _ h => by omega, by rw [HB.out]; exact heap_alloc_new w _, Keeps.alloc None w _⟩
  case round =>
    obtain ⟨k, hk, rfl, hall, hbx, hkp⟩ := hrel
    have d0 := (cell_of_heap hbx 0).trans rfl
    have d1 := (cell_of_heap hbx 1).trans rfl
    have d2 := (cell_of_heap hbx 2).trans rfl
    have d3 := (cell_of_heap hbx 3).trans rfl
    have d4 := (cell_of_heap hbx 4).trans rfl
    have d5 := (cell_of_heap hbx 5).trans rfl
    have d6 := (cell_of_heap hbx 6).trans rfl
    by_cases hkn : k < n
    · obtain ⟨b, off, x, rfl, hx, hat⟩ := (HC.out.more hkp).at hkn
      obtain ⟨y0, y1, y2, y3, y4⟩ := hat
      have i1 : (k : Int) < (n : Int) := by omega
      have HK : Hid (Keeps None w wr ∧ f.code[k]? = some x ∧ (∀ j x, j < k → f.code[j]? = some x → fitsV false fs f x = true) ∧ wr.heap[B]? = some (.cells #[.int .i64 number, .int .i64 f.params, .int .i64 f.regs, .int .i64 f.slots, .slice (some ⟨b, off, none⟩) n cc, .slice fa fn fc, .bool false] 73 (0, 0))) := ⟨hkp, hx, hall, hbx⟩
      have hc := HF.out x (List.mem_of_getElem? hx) _ (hkp.andAlloc (.cells #[.int .i64 x.kind, .int .i64 x.a, .int .i64 x.b, .int .i64 x.c, .int .i64 x.k] 43))
      unfold insV at hc
      have HD : Hid (wr.cell? ⟨B, 0, none⟩ = some (.int .i64 number)) := d0
      have hal := Keeps.alloc None wr (.cells #[.int .i64 x.kind, .int .i64 x.a, .int .i64 x.b, .int .i64 x.c, .int .i64 x.k] 43)
      have a0 := hal.cell d0 (fun f => f)
      have a1 := hal.cell d1 (fun f => f)
      have a2 := hal.cell d2 (fun f => f)
      have a3 := hal.cell d3 (fun f => f)
      have a4 := hal.cell d4 (fun f => f)
      have a5 := hal.cell d5 (fun f => f)
      have a6 := hal.cell d6 (fun f => f)
      clear hal
      clear hx hkp hall hbx
      cases hv : fitsV false fs f x with
      | false =>
        rw [hv] at hc
        have HV : Hid (fitsV false fs f x = false) := hv
        clear hv
        go_wp2_with (first | (go_at_call 62; refine hc.mono ?_; rintro e w2 ⟨rfl, hk2⟩; have hk3 := (Keeps.alloc None wr _).trans hk2 (fun _ f _ => f); have d0' := hk3.cell HD.out (fun f => f)) | (go_at_call 60; refine (giveUp_any _ _ _ _).mono ?_; rintro e w' ⟨rfl, hw⟩; have hw2 := hw.symm; subst hw2))
        refine ⟨rfl, ?_, HK.out.1.trans hk3 (fun _ f _ => f)⟩
        unfold codeE codeFault
        rw [firstAt_some _ f.code 0 k x () HK.out.2.1 (fun j y hj hy => by rw [HK.out.2.2.1 j y hj hy]; rfl) (by rw [HV.out]; rfl)]
        simp
      | true =>
        rw [hv] at hc
        have HV : Hid (fitsV false fs f x = true) := hv
        clear hv
        go_wp2_with (first | (go_at_call 62; refine hc.mono ?_; rintro e w2 ⟨rfl, hk2⟩; have hk3 := (Keeps.alloc None wr _).trans hk2 (fun _ f _ => f)))
        refine ⟨⟨k + 1, by omega, by simp, fun j g hj hg => ?_, (hk3.block B (Array.getElem?_eq_some_iff.1 HK.out.2.2.2).1 (fun f => f)).trans HK.out.2.2.2, HK.out.1.trans hk3 (fun _ f _ => f)⟩, by simp [intOf]; omega⟩
        by_cases hjk : j = k
        · subst hjk
          rw [HK.out.2.1] at hg
          obtain rfl := Option.some.inj hg
          exact HV.out
        · exact HK.out.2.2.1 j g (by omega) hg
    · have i1 : ¬ ((k : Int) < (n : Int)) := by omega
      have hkn2 : k = n := by omega
      subst hkn2
      obtain ⟨b, off, x, rfl, hx, hat⟩ := (HC.out.more hkp).at (k := k - 1) (by omega)
      have y0 := hat.kind
      have hfx := hall (k - 1) x (by omega) hx
      obtain ⟨xk, xa, xb, xc, xK⟩ := x
      have hb10 : belowV xk 10 = true := by
        simp only [fitsV, Bool.and_eq_true] at hfx
        exact hfx.1.1
      obtain ⟨q, rfl⟩ := Int.eq_ofNat_of_zero_le ((belowV_iff _ _).1 hb10).1
      have hq := ((belowV_iff _ _).1 hb10).2
      obtain ⟨t0, t1, t2, t3, t4⟩ := (HH.out.2.2.2.more hkp).at q (by omega)
      have i2 : (0 : Int) ≤ (q : Int) := by omega
      have i3 : (0 : Int) ≤ ((k - 1 : Nat) : Int) := by omega
      have i4 : ((k - 1 : Nat) : Int) < (k : Int) := by omega
      have i5 : wrap64 ((k : Int) - 1) = ((k - 1 : Nat) : Int) := by unfold wrap64; omega
      have HK : Hid (Keeps None w wr ∧ f.code[k - 1]? = some ⟨q, xa, xb, xc, xK⟩ ∧ (∀ j x, j < k → f.code[j]? = some x → fitsV false fs f x = true)) := ⟨hkp, hx, hall⟩
      have HR : Hid (runsOut f = fN q) := by
        unfold Hid runsOut
        rw [← HH.out.2.2.1, hx]
        rfl
      clear hx hkp hall hfx hb10 hat
      cases hv : fN q with
      | false =>
        rw [hv] at t4 HR
        clear hv
        go_wp2_with fail
        go_end0
        refine ⟨?_, HK.out.1⟩
        unfold codeE codeFault
        rw [firstAt_none _ f.code 0 (fun j y hy => by rw [HK.out.2.2 j y (by have := (List.getElem?_eq_some_iff.1 hy).1; have := HH.out.2.2.1; omega) hy]; rfl), HR.out]
        rfl
      | true =>
        rw [hv] at t4 HR
        clear hv
        go_wp2_with (go_at_call 60; refine (giveUp_any _ _ _ _).mono ?_; rintro e w' ⟨rfl, hw⟩; have hw2 := hw.symm; subst hw2)
        refine ⟨rfl, ?_, HK.out.1⟩
        unfold codeE codeFault
        rw [firstAt_none _ f.code 0 (fun j y hy => by rw [HK.out.2.2 j y (by have := (List.getElem?_eq_some_iff.1 hy).1; have := HH.out.2.2.1; omega) hy]; rfl), HR.out, ← HH.out.2.2.1]
        rfl
end Go.Proofs.YtiibflbfnoddmaaDoor
/-! Check: what is thrown is caught. -/
namespace Go.Proofs.YtiibflbfnoddmaaDoor
set_option linter.unusedVariables false
set_option maxRecDepth 20000
open Go.RowKit Go.HeapKit

theorem results_one {P : Program} {fn : Func} {q : Tmp} {ty : TypeId} (h : fn.results = #[.cell q ty]) {tmps : Array Value} {w : World} {g : Nat} (ha : tmps.getD q undef = .pointer (some ⟨g, 0, none⟩)) {v : Value}
    (hl : (loadVar ty ⟨g, 0, none⟩).run P w = .ok v w) : (results fn tmps).run P w = .ok v w := by
  have ha' : tmps[q]?.getD undef = .pointer (some ⟨g, 0, none⟩) := by simpa using ha
  simp [results, h, ha', asAddr, hl]
theorem load_fault (w : World) (g : Nat) (t : TypeId) (e n a : Int) (hb : w.heap[g]? = some (.cells #[.int .i64 e, .int .i64 n, .int .i64 a] t (0, 0))) : (loadVar 49 ⟨g, 0, none⟩).run Tryd.prog w = .ok (faultV e n a) w :=
  run_loadVar_row _ g t 49 _ _ _ hb Tryd.underlying49 rfl (by kernel_rfl)
theorem fault_end {Q : Ending → World → Prop} {a : Act} {w1 : World} {g : Nat} {t : TypeId} {fn : Func} {e n x : Int} (hfn : fn.results = #[.cell 2 49]) (hb : w1.heap[g]? = some (.cells #[.int .i64 e, .int .i64 n, .int .i64 x] t (0, 0)))
    (ha : a.tmps.getD 2 undef = .pointer (some ⟨g, 0, none⟩)) (hd : a.defers = []) (hQ : Q (.returned (faultV e n x)) w1) : bodyPost Tryd.prog fn Q .ret a w1 :=
  bodyPost_ret (results_one (q := 2) (ty := 49) hfn ha (load_fault _ g t e n x hb)) hd hQ
theorem caught_nil (w : World) : Calls Tryd.prog 47 #[.nilIface] w fun e w' => e = .returned (faultV 0 0 0) ∧ Keeps None w w' := by
  go_enter Tryd.func47, Tryd.ntmps47
  go_wp2
  exact fault_end rfl (heap_alloc_new _ _) rfl rfl ⟨rfl, Keeps.alloc None w _⟩
theorem caught_fault (e n a : Int) (w : World) : Calls Tryd.prog 47 #[.iface 49 (faultV e n a)] w fun e' w' => e' = .returned (faultV e n a) ∧ Keeps None w w' := by
  unfold faultV
  have ht : ∀ wx, (Instr.typeAssert (.iface 49 (.agg #[.int .i64 e, .int .i64 n, .int .i64 a])) 20 49 true).run Tryd.prog wx = .ok (.tuple #[.agg #[.int .i64 e, .int .i64 n, .int .i64 a], .bool true]) wx := fun _ => rfl
  go_enter Tryd.func47, Tryd.ntmps47
  go_wp2
  exact fault_end rfl (two_boxes w _ _ _ _).1 rfl rfl ⟨rfl, keeps2 w _ _⟩
theorem catch_panic (p : Nat) (c : Array Value) (e n a : Int) (w : World) (hc : w.heap[p]? = some (.cells c 49 (0, 0))) (hs : c.size = 3) :
    CallsD Tryd.prog 46 #[.pointer (some ⟨p, 0, none⟩)] (.panicking (thrown e n a)) w fun e' u' w' => e' = .returned (.tuple #[]) ∧ u' = .panicking [{ v := .iface 49 (faultV e n a), recovered := true }] ∧
      w'.heap[p]? = some (.cells #[.int .i64 e, .int .i64 n, .int .i64 a] 49 (0, 0)) ∧ Keeps (· = p) w w' := by
  refine callsD_of_wpS Tryd.func46 rfl fun c₀ cs hu => ?_
  unfold thrown at hu
  apply wpS_region
  simp [wpOpsS, go_sem, recoverD, hu, Tryd.ntmps46]
  refine (caught_fault e n a w).mono ?_
  rintro _ w2 ⟨rfl, hk2⟩
  have hc2 := blk_kept hc hk2 (fun f => f)
  obtain ⟨l⟩ := c
  match l, hs with
  | [v0, v1, v2], _ =>
    have c0 := (cell_of_heap hc2 0).trans rfl
    have c1 := (cell_of_heap hc2 1).trans rfl
    have c2 := (cell_of_heap hc2 2).trans rfl
    have z0 := blk_free hc2 0
    have z1 := blk_free hc2 1
    have z2 := blk_free hc2 2
    have b3 := blk_set (i := 2) (blk_set (i := 1) (blk_set (i := 0) hc2 (.int .i64 e)) (.int .i64 n)) (.int .i64 a)
    have k3 : Keeps (· = p) w (((w2.setCell ⟨p, 0, none⟩ (.int .i64 e)).setCell ⟨p, 1, none⟩ (.int .i64 n)).setCell ⟨p, 2, none⟩ (.int .i64 a)) := (((hk2.mono (fun _ f _ => f.elim)).andSet (S := (· = p)) (x := ⟨p, 0, none⟩) (.inl rfl) _).andSet (x := ⟨p, 1, none⟩) (.inl rfl) _).andSet (x := ⟨p, 2, none⟩) (.inl rfl) _
    simp [faultV, go_sem, c0, c1, c2, z0, z1, z2, bodyPostS, results, Tryd.results46]
    exact ⟨b3, k3⟩
theorem catch_none (p : Nat) (c : Array Value) (w : World) (hc : w.heap[p]? = some (.cells c 49 (0, 0))) (hs : c.size = 3) :
    CallsD Tryd.prog 46 #[.pointer (some ⟨p, 0, none⟩)] .returning w fun e' u' w' => e' = .returned (.tuple #[]) ∧ u' = .returning ∧
      w'.heap[p]? = some (.cells #[.int .i64 0, .int .i64 0, .int .i64 0] 49 (0, 0)) ∧ Keeps (· = p) w w' := by
  refine callsD_of_wpS Tryd.func46 rfl fun c₀ cs hu => ?_
  apply wpS_region
  simp [wpOpsS, go_sem, recoverD, hu, Tryd.ntmps46]
  refine (caught_nil w).mono ?_
  rintro _ w2 ⟨rfl, hk2⟩
  have hc2 := blk_kept hc hk2 (fun f => f)
  obtain ⟨l⟩ := c
  match l, hs with
  | [v0, v1, v2], _ =>
    have c0 := (cell_of_heap hc2 0).trans rfl
    have c1 := (cell_of_heap hc2 1).trans rfl
    have c2 := (cell_of_heap hc2 2).trans rfl
    have z0 := blk_free hc2 0
    have z1 := blk_free hc2 1
    have z2 := blk_free hc2 2
    have b3 := blk_set (i := 2) (blk_set (i := 1) (blk_set (i := 0) hc2 (.int .i64 0)) (.int .i64 0)) (.int .i64 0)
    have k3 : Keeps (· = p) w (((w2.setCell ⟨p, 0, none⟩ (.int .i64 0)).setCell ⟨p, 1, none⟩ (.int .i64 0)).setCell ⟨p, 2, none⟩ (.int .i64 0)) := (((hk2.mono (fun _ f _ => f.elim)).andSet (S := (· = p)) (x := ⟨p, 0, none⟩) (.inl rfl) _).andSet (x := ⟨p, 1, none⟩) (.inl rfl) _).andSet (x := ⟨p, 2, none⟩) (.inl rfl) _
    simp [faultV, go_sem, c0, c1, c2, z0, z1, z2, bodyPostS, results, Tryd.results46]
    exact ⟨.returning, by cases c₀; simp_all, rfl, b3, k3⟩
end Go.Proofs.YtiibflbfnoddmaaDoor
