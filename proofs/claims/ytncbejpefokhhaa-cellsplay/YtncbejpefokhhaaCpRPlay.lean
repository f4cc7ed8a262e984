import Derived.Test.YtncbejpefokhhaaCpPlays
import Derived.Test.YtncbejpefokhhaaCpActs2
/-! The document's Play, whole. -/
namespace Go.Proofs.Ytncbejpefokhhaa
set_option linter.unusedVariables false
open Go.RowKit Go.HeapKit

theorem rnew_w (n : Int) (w : World) : Calls Try.prog 15 #[.int .i64 n] w fun e w' => e = .returned (.tuple #[.pointer (some ⟨w.heap.size, 0, none⟩), .int .i64 (if fineW n then 0 else 3)]) ∧
    IsRef w' w.heap.size (.slice none 0 0) (.slice none 0 0) (Ar.new (if fineW n then n.toNat else 0)) ∧ Keeps None w w' := by
  by_cases h0 : n < 0
  · have e1 : fineW n = false := by simp [fineW]; omega
    rw [e1]
    go_enter Try.func15, Try.ntmps15
    go_wp2
    go_ret2
    exact ⟨rfl, ⟨by simpa [Ar.new] using new_at w _ _ rfl, World.ownsRow_nil _ _ _ _, World.ownsRow_nil _ _ _ _, by simp [Ar.new]⟩, (Keeps.refl _ _).andAlloc _⟩
  by_cases h1 : 1048576 < n
  · have e1 : fineW n = false := by simp [fineW]; omega
    rw [e1]
    go_enter Try.func15, Try.ntmps15
    go_wp2
    go_ret2
    exact ⟨rfl, ⟨by simpa [Ar.new] using new_at w _ _ rfl, World.ownsRow_nil _ _ _ _, World.ownsRow_nil _ _ _ _, by simp [Ar.new]⟩, (Keeps.refl _ _).andAlloc _⟩
  · have e1 : fineW n = true := by simp [fineW]; omega
    rw [e1]
    obtain ⟨k, rfl⟩ : ∃ k : Nat, n = k := ⟨n.toNat, by omega⟩
    go_enter Try.func15, Try.ntmps15
    go_wp2
    go_ret2
    exact ⟨rfl, ⟨by simpa [Ar.new] using new_at w _ _ rfl, World.ownsRow_nil _ _ _ _, World.ownsRow_nil _ _ _ _, by simp [Ar.new]; omega⟩, (Keeps.refl _ _).andAlloc _⟩

def RPost (w : World) (size : Int) (n : Nat) (M : Nat → Nat → Int) (e : Ending) (w' : World) : Prop :=
  ∃ ea ec ca cc la lc, e = .returned (.tuple #[.agg #[.slice ea (runN size n) ec, .slice ca (runA size n M).cells.length cc, .slice la (runA size n M).log.length lc], .int .i64 (errP size n)]) ∧
    RunOut w.heap.size w' (runN size n) (runA size n M) (runF size M) ea ec ca cc la lc ∧ Keeps None w w'
theorem r_err {w w' : World} {size : Int} {n : Nat} {M : Nat → Nat → Int} {E : Int} (hE : errP size n = E) (h0 : E ≠ 0) (hb : Keeps None w w') : RPost w size n M (.returned (.tuple #[.agg #[.slice none 0 0, .slice none 0 0, .slice none 0 0], .int .i64 E])) w' := by
  have e1 : runN size n = 0 := by unfold runN; rw [if_neg (by rw [hE]; exact h0)]
  have e2 : runA size n M = Ar.new 0 := by unfold runA; rw [if_neg (by rw [hE]; exact h0)]
  refine ⟨none, 0, none, 0, none, 0, ?_, ?_, hb⟩
  · rw [e1, e2, hE]; rfl
  · rw [e1, e2]; exact run_nil _ _ _
theorem pair_new (w : World) (o1 o2 : Obj) : ((w.alloc o1).alloc o2).heap[w.heap.size]? = some o1 ∧ ((w.alloc o1).alloc o2).heap[w.heap.size + 1]? = some o2 :=
  ⟨(Below.heap_alloc _ _ _ (by simp)).trans (new_at _ _ _ rfl), new_at _ _ _ (by simp)⟩
theorem ref_keep {w w' : World} {p : Nat} {vc vl : Value} {A : Ar} {k : Nat} {cs : Array Value} {T : TypeId} {fz : Nat × Nat} (h : IsRef w p vc vl A) (hk : Keeps (Foot p vc vl) w w') (hb : w.heap[k]? = some (.cells cs T fz))
    (h1 : T ≠ 51) (h2 : T ≠ 2) (h3 : T ≠ 65) : w'.heap[k]? = some (.cells cs T fz) := by
  refine (hk.block k (Array.getElem?_eq_some_iff.1 hb).1 (fun f => ?_)).trans hb
  rcases f with rfl | e | e
  · rw [h.blk] at hb; simp at hb; exact h1 hb.2.1.symm
  · exact h2 (own_type h.cells e hb).symm
  · exact h3 (own_type h.log e hb).symm
theorem ref_row {w w' : World} {p : Nat} {vc vl : Value} {A : Ar} {B : Nat} {T : TypeId} {size n : Nat} {v : Value} {xs : List Value} (h : IsRef w p vc vl A) (hk : Keeps (Foot p vc vl) w w') (ho : w.ownsRow B T size v n xs)
    (h1 : T ≠ 51) (h2 : T ≠ 2) (h3 : T ≠ 65) : w'.ownsRow B T size v n xs := by
  refine hk.own ho (fun g e f => ?_)
  obtain ⟨cur, hc⟩ := own_block ho e
  rcases f with rfl | e | e
  · rw [h.blk] at hc; simp at hc; exact h1 hc.2.symm
  · exact h2 (own_type h.cells e hc).symm
  · exact h3 (own_type h.log e hc).symm
/-- On the way. -/
structure RL (w : World) (r p k : Nat) (M : Nat → Nat → Int) (j : Nat) (wr : World) (ve : Value) : Prop where
  ref : ∃ vc vl, IsRef wr p vc vl (stAt (Ar.watched k) M j) ∧ (∀ g, vc.ownBlock = some g → w.heap.size ≤ g) ∧ ∀ g, vl.ownBlock = some g → w.heap.size ≤ g
  box : wr.heap[r + 1]? = some (.cells #[ve, .slice none 0 0, .slice none 0 0] 27 (0, 0))
  eff : wr.ownsRow w.heap.size 41 3 ve j (effVals (effAt (Ar.watched k) M) j)
  res : wr.heap[r]? = some (.cells #[.slice none 0 0, .slice none 0 0, .slice none 0 0] 27 (0, 0))
  kp : Keeps None w wr
set_option maxHeartbeats 8000000 in
set_option maxRecDepth 20000 in
theorem rplay_all (size : Int) (ao : Option Addr) (n c : Nat) (M : Nat → Nat → Int) (w : World) (hM : Fives w ao n M) (hs : n * 40 ≤ 140737488351232) :
    Calls Try.prog 4 #[.int .i64 size, .slice ao n c] w (RPost w size n M) := by
  have HM : Hid (Fives w ao n M) := hM
  obtain ⟨r, hr⟩ : ∃ r, r = w.heap.size := ⟨_, rfl⟩
  have HG : Hid (r = w.heap.size) := hr
  have hnew := rnew_w size ((w.alloc (.cells #[.slice none 0 0, .slice none 0 0, .slice none 0 0] 27)).alloc (.cells #[.slice none 0 0, .slice none 0 0, .slice none 0 0] 27))
  obtain ⟨hp1, hp2⟩ := pair_new w (.cells #[.slice none 0 0, .slice none 0 0, .slice none 0 0] 27) (.cells #[.slice none 0 0, .slice none 0 0, .slice none 0 0] 27)
  rw [← hr] at hp1 hp2
  simp only [World.size_alloc] at hnew
  clear hM
  go_enter Try.func4, Try.ntmps4
  go_wp2_with fail
  refine hnew.mono ?_
  rintro e w1 ⟨rfl, hI1, hk1⟩
  have hb1 : w1.heap[r]? = some (.cells #[.slice none 0 0, .slice none 0 0, .slice none 0 0] 27 (0, 0)) := (hk1.block r (by rw [hr]; simp; omega) (fun f => f)).trans hp1
  have hb2 : w1.heap[r + 1]? = some (.cells #[.slice none 0 0, .slice none 0 0, .slice none 0 0] 27 (0, 0)) := (hk1.block (r + 1) (by rw [hr]; simp) (fun f => f)).trans hp2
  have hkw : Keeps None w w1 := (((Keeps.refl None w).andAlloc _).andAlloc _).trans hk1 (fun _ f _ => f)
  have r0 : w1.cell? ⟨r, 0, none⟩ = some (.slice none 0 0) := (cell_of_block hb1 0).trans rfl
  have r1 : w1.cell? ⟨r, 1, none⟩ = some (.slice none 0 0) := (cell_of_block hb1 1).trans rfl
  have r2 : w1.cell? ⟨r, 2, none⟩ = some (.slice none 0 0) := (cell_of_block hb1 2).trans rfl
  have q0 := free_of_block hb1 0
  have q1 := free_of_block hb1 1
  have q2 := free_of_block hb1 2
  have s0 : w1.cell? ⟨r + 1, 0, none⟩ = some (.slice none 0 0) := (cell_of_block hb2 0).trans rfl
  have s1 : w1.cell? ⟨r + 1, 1, none⟩ = some (.slice none 0 0) := (cell_of_block hb2 1).trans rfl
  have s2 : w1.cell? ⟨r + 1, 2, none⟩ = some (.slice none 0 0) := (cell_of_block hb2 2).trans rfl
  rw [← hr] at hI1 ⊢
  cases hf : fineW size with
  | false =>
    have hE : errP size n = 3 := by unfold errP; rw [hf]; rfl
    have HE : Hid (∀ w', Keeps (· = r) w1 w' → RPost w size n M (.returned (.tuple #[.agg #[.slice none 0 0, .slice none 0 0, .slice none 0 0], .int .i64 3])) w') := fun w' hk => r_err hE (by decide) (hkw.trans hk (fun i e hi => by omega))
    simp only [Bool.false_eq_true, if_false]
    clear hnew hI1 hk1 hE hf hkw hr
    go_wp2
    refine run_end rfl rfl hb1 rfl rfl _ _ _ (fun w' hk7 => HE.out w' hk7)
  | true =>
    obtain ⟨k, rfl⟩ : ∃ k : Nat, size = k := ⟨size.toNat, by simp [fineW] at hf; omega⟩
    have hk : k ≤ 1048576 := by simp [fineW] at hf; omega
    simp only [if_true]
    by_cases hn : 4096 < n
    · have hE : errP k n = 2 := by unfold errP; rw [hf, if_pos rfl, if_pos hn]
      have HE : Hid (∀ w', Keeps (· = r) w1 w' → RPost w k n M (.returned (.tuple #[.agg #[.slice none 0 0, .slice none 0 0, .slice none 0 0], .int .i64 2])) w') := fun w' hk => r_err hE (by decide) (hkw.trans hk (fun i e hi => by omega))
      have i1 : (4096 : Int) < (n : Int) := by omega
      clear hnew hI1 hk1 hE hf hkw hr
      go_wp2
      refine run_end rfl rfl hb1 rfl rfl _ _ _ (fun w' hk7 => HE.out w' hk7)
    · have hE : errP k n = 0 := by unfold errP; rw [hf, if_pos rfl, if_neg hn]
      have HE : Hid (errP k n = 0) := hE
      have i1 : ¬ (4096 : Int) < (n : Int) := by omega
      obtain ⟨p, hp⟩ : ∃ p, p = r + 1 + 1 := ⟨_, rfl⟩
      rw [hf] at hI1
      simp only [if_true] at hI1
      rw [show ((k : Int)).toNat = k by omega] at hI1
      rw [← hp] at hI1 ⊢
      have c2 : w1.cell? ⟨p, 2, none⟩ = some (.bool false) := hI1.c2
      have f2 := hI1.free 2
      have hks : Keeps (· = p) w1 (w1.setCell ⟨p, 2, none⟩ (.bool true)) := Keeps.setCell (S := (· = p)) w1 (a := ⟨p, 2, none⟩) rfl _
      have H0 : Hid (RL w r p k M 0 (w1.setCell ⟨p, 2, none⟩ (.bool true)) (.slice none 0 0)) :=
        ⟨⟨_, _, hI1.watch true, fun g e => by simp [Value.ownBlock] at e, fun g e => by simp [Value.ownBlock] at e⟩, (hks.block (r + 1) (Array.getElem?_eq_some_iff.1 hb2).1 (by omega)).trans hb2, World.ownsRow_nil _ _ _ _, (hks.block r (Array.getElem?_eq_some_iff.1 hb1).1 (by omega)).trans hb1, hkw.trans hks (fun i e hi => by omega)⟩
      have hpw : w.heap.size ≤ p ∧ p ≠ r ∧ p ≠ r + 1 := by omega
      have hrw : r = w.heap.size := hr
      have HRW : Hid (r = w.heap.size) := hrw
      clear hnew hI1 hk1 hE hf hkw hr hb1 hb2 r0 r1 r2 q0 q1 q2 s0 s1 s2 hks hp hp1 hp2 hrw
      go_wp2_with fail
      go_loopw [9, 10] (fun i _ wr => ∃ j : Nat, j ≤ n ∧ i = .int .i64 j ∧ ∃ ve, RL w r p k M j wr ve) (fun i _ _ => n - (intOf i).toNat)
      case atStart => exact ⟨0, Nat.zero_le _, rfl, _, H0.out⟩
      case round =>
        clear H0 c2 f2
        obtain ⟨j, hj, rfl, ve, hRL⟩ := hrel
        obtain ⟨va, vcp, rfl⟩ := own_shape hRL.eff
        obtain ⟨vc, vl, hI, hlc, hll⟩ := hRL.ref
        have hlog := stAt_log (Ar.watched k) M j
        rw [show (Ar.watched k).log.length = 0 from rfl] at hlog
        by_cases hjn : j < n
        · have c3 := hI.c3
          have f3 := hI.free 3
          have hks : Keeps (· = p) wr (wr.setCell ⟨p, 3, none⟩ (.int .i64 (M j 0))) := Keeps.setCell (S := (· = p)) wr (a := ⟨p, 3, none⟩) rfl _
          obtain ⟨b, off, rfl, hb, hc⟩ := (HM.out.kept hRL.kp (fun _ _ _ _ _ f => f)) (by omega)
          obtain ⟨m0, m1, m2, m3, m4⟩ := hc j hjn
          have hkp3 : Keeps None w (wr.setCell ⟨p, 3, none⟩ (.int .i64 (M j 0))) := hRL.kp.trans hks (fun i e hi => by omega)
          obtain ⟨b', off', e', -, hc3⟩ := (HM.out.kept hkp3 (fun _ _ _ _ _ f => f)) (by omega)
          injection e' with e'
          injection e' with e1 e2
          subst e1 e2
          obtain ⟨n0, n1, n2, n3, n4⟩ := hc3 j hjn
          have hI3 := hI.act (M j 0)
          have hdo := rdo_acted p vc vl _ (M j 0) (M j 1) (M j 2) (M j 3) (M j 4) _ hI3 (by show (stAt (Ar.watched k) M j).log.length < _; omega)
          have hbx := (hks.block (r + 1) (Array.getElem?_eq_some_iff.1 hRL.box).1 (by omega)).trans hRL.box
          have hrs := (hks.block r (Array.getElem?_eq_some_iff.1 hRL.res).1 (by omega)).trans hRL.res
          have hef : (wr.setCell ⟨p, 3, none⟩ (.int .i64 (M j 0))).ownsRow w.heap.size 41 3 (.slice va j vcp) j (effVals (effAt (Ar.watched k) M) j) := hks.own hRL.eff (fun g e e2 => by subst e2; exact absurd (own_type hRL.eff e hI.blk) (by decide))
          have HT : Hid (effAt (Ar.watched k) M j = (({ stAt (Ar.watched k) M j with actor := M j 0 } : Ar).acted (M j 1) (M j 2) (M j 3) (M j 4)).1 ∧ stAt (Ar.watched k) M (j + 1) = (({ stAt (Ar.watched k) M j with actor := M j 0 } : Ar).acted (M j 1) (M j 2) (M j 3) (M j 4)).2) := ⟨rfl, rfl⟩
          have HS : Hid (IsRef (wr.setCell ⟨p, 3, none⟩ (.int .i64 (M j 0))) p vc vl { stAt (Ar.watched k) M j with actor := M j 0 } ∧ Keeps None w (wr.setCell ⟨p, 3, none⟩ (.int .i64 (M j 0))) ∧ (∀ g, vc.ownBlock = some g → w.heap.size ≤ g) ∧ (∀ g, vl.ownBlock = some g → w.heap.size ≤ g)) := ⟨hI3, hkp3, hlc, hll⟩
          have HB : Hid ((wr.setCell ⟨p, 3, none⟩ (.int .i64 (M j 0))).heap[r + 1]? = some (.cells #[.slice va j vcp, .slice none 0 0, .slice none 0 0] 27 (0, 0)) ∧ (wr.setCell ⟨p, 3, none⟩ (.int .i64 (M j 0))).heap[r]? = some (.cells #[.slice none 0 0, .slice none 0 0, .slice none 0 0] 27 (0, 0)) ∧ (wr.setCell ⟨p, 3, none⟩ (.int .i64 (M j 0))).ownsRow w.heap.size 41 3 (.slice va j vcp) j (effVals (effAt (Ar.watched k) M) j)) := ⟨hbx, hrs, hef⟩
          have i2 : (j : Int) < (n : Int) := by omega
          clear hc hc3 hI hI3 hRL hks hkp3 hbx hrs hef hlc hll hb
          generalize (({ stAt (Ar.watched k) M j with actor := M j 0 } : Ar).acted (M j 1) (M j 2) (M j 3) (M j 4)) = D at hdo HT
          obtain ⟨⟨v, ok, err⟩, A'⟩ := D
          simp only [Eff.value] at hdo
          go_wp2_with fail
          refine hdo.mono ?_
          rintro e w4 ⟨rfl, vc', vl', hI4, hk4, mc, ml⟩
          have hbx4 := ref_keep HS.out.1 hk4 HB.out.1 (by decide) (by decide) (by decide)
          have hrs4 := ref_keep HS.out.1 hk4 HB.out.2.1 (by decide) (by decide) (by decide)
          have hef4 := ref_row HS.out.1 hk4 HB.out.2.2 (by decide) (by decide) (by decide)
          have hkw4 : Keeps None w w4 := HS.out.2.1.trans hk4 (fun i e hi => by
            rcases e with e | e | e
            · omega
            · have := HS.out.2.2.1 i e; omega
            · have := HS.out.2.2.2 i e; omega)
          have hlow : ∀ {u u' : Value}, Moved (wr.setCell ⟨p, 3, none⟩ (.int .i64 (M j 0))) u u' → (∀ g, u.ownBlock = some g → w.heap.size ≤ g) → ∀ g, u'.ownBlock = some g → w.heap.size ≤ g := by
            intro u u' hmv hu g e
            rcases hmv with hmv | ⟨g', e', hg'⟩
            · exact hu g (hmv.symm.trans e)
            · rw [e'] at e; injection e with e; have := HS.out.2.1.size; omega
          have hB2 : (w4.alloc (.cells #[.int .i64 v, .bool ok, .int .i64 err] 41)).heap[r + 1]? = some (.cells #[.slice va j vcp, .slice none 0 0, .slice none 0 0] 27 (0, 0)) := (Below.heap_alloc _ _ _ (Array.getElem?_eq_some_iff.1 hbx4).1).trans hbx4
          have e0 : (w4.alloc (.cells #[.int .i64 v, .bool ok, .int .i64 err] 41)).cell? ⟨r + 1, 0, none⟩ = some (.slice va j vcp) := (cell_of_block hB2 0).trans rfl
          have hf : effAt (Ar.watched k) M j = ⟨v, ok, err⟩ := HT.out.1
          obtain ⟨g, cp, w5, hr5, ho5, hk5, hm5⟩ := eff_more w.heap.size (.slice va j vcp) (effAt (Ar.watched k) M) j 23 (w4.heap.size + 1) ((w4.alloc (.cells #[.int .i64 v, .bool ok, .int .i64 err] 41)).alloc (.cells #[.int .i64 v, .bool ok, .int .i64 err] 41)) ((hef4.alloc _).alloc _) (by have := hkw4.size; simp; omega) (by omega) (by rw [hf]; exact new_at _ _ _ (by simp))
          have hne1 : (Value.slice va j vcp).ownBlock ≠ some (r + 1) := fun e => absurd (own_type hef4 e hbx4) (by decide)
          have hne2 : (Value.slice va j vcp).ownBlock ≠ some r := fun e => absurd (own_type hef4 e hrs4) (by decide)
          have hal : Keeps None w4 ((w4.alloc (.cells #[.int .i64 v, .bool ok, .int .i64 err] 41)).alloc (.cells #[.int .i64 v, .bool ok, .int .i64 err] 41)) := ((Keeps.refl None w4).andAlloc _).andAlloc _
          have hbx5 := (hk5.block (r + 1) (Nat.lt_of_lt_of_le (Array.getElem?_eq_some_iff.1 hbx4).1 hal.size) hne1).trans ((hal.block (r + 1) (Array.getElem?_eq_some_iff.1 hbx4).1 (fun f => f)).trans hbx4)
          have hrs5 := (hk5.block r (Nat.lt_of_lt_of_le (Array.getElem?_eq_some_iff.1 hrs4).1 hal.size) hne2).trans ((hal.block r (Array.getElem?_eq_some_iff.1 hrs4).1 (fun f => f)).trans hrs4)
          have d0 : w5.cell? ⟨r + 1, 0, none⟩ = some (.slice va j vcp) := (cell_of_block hbx5 0).trans rfl
          have x0 := free_of_block hbx5 0
          have hI5 : IsRef w5 p vc' vl' A' := (hI4.kept hal (fun _ _ f => f)).kept hk5 (fun i e e2 => by
            rcases e with e | e | e
            · subst e; exact absurd (own_type hef4 e2 hI4.blk) (by decide)
            · exact own_apart hI4.cells hef4 (by decide) e e2
            · exact own_apart hI4.log hef4 (by decide) e e2)
          have hks6 : Keeps (· = r + 1) w5 (w5.setCell ⟨r + 1, 0, none⟩ (.slice (some ⟨g, 0, none⟩) (j + 1) cp)) := Keeps.setCell (S := (· = r + 1)) w5 (a := ⟨r + 1, 0, none⟩) rfl _
          have HN : Hid (RL w r p k M (j + 1) (w5.setCell ⟨r + 1, 0, none⟩ (.slice (some ⟨g, 0, none⟩) (j + 1) cp)) (.slice (some ⟨g, 0, none⟩) (j + 1) cp)) := by
            refine ⟨⟨vc', vl', ?_, hlow mc HS.out.2.2.1, hlow ml HS.out.2.2.2⟩, (setCell_block hbx5 _).trans rfl, hks6.own ho5 (fun i e e2 => ?_), (hks6.block r (Array.getElem?_eq_some_iff.1 hrs5).1 (by omega)).trans hrs5, ((hkw4.trans hal (fun _ f _ => f)).trans hk5 (fun i e hi => by have := own_low hef4 e; omega)).trans hks6 (fun i e hi => by have := HRW.out; omega)⟩
            · rw [HT.out.2]
              exact hI5.kept hks6 (fun i e e2 => by
                rcases e with e | e | e
                · omega
                · subst e2; exact absurd (own_type hI5.cells e hbx5) (by decide)
                · subst e2; exact absurd (own_type hI5.log e hbx5) (by decide))
            · subst e2; exact absurd (own_type ho5 e hbx5) (by decide)
          clear hdo hI4 hk4 mc ml hbx4 hrs4 hef4 hkw4 hlow hB2 hf ho5 hk5 hm5 hne1 hne2 hal hbx5 hrs5 hI5 hks6 HT HS HB m0 m1 m2 m3 m4 n0 n1 n2 n3 n4 c3 f3
          go_wp2_with (at_builtin; refine wpList_append_run rfl (.tmp 48) (.tmp 50) 23 23 rfl rfl rfl hr5 ?_)
          exact ⟨⟨j + 1, by omega, by go_num, _, HN.out⟩, by simp [intOf]; omega⟩
        · have hjn2 : j = n := by omega
          subst hjn2
          have hfit := stAt_cells (Ar.watched k) M j (by simp [Ar.watched]) (by simpa [Ar.watched] using hk)
          obtain ⟨A, hA⟩ : ∃ A, A = stAt (Ar.watched k) M j := ⟨_, rfl⟩
          rw [← hA] at hI hlog hfit
          have hcc := rcells_ok p vc vl A wr hI
          have HA : Hid (A = stAt (Ar.watched k) M j) := hA
          have HI : Hid (IsRef wr p vc vl A) := hI
          have HRL : Hid (RL w r p k M j wr (.slice va j vcp)) := hRL
          clear hI hRL hA hlc hll
          go_wp2_with fail
          refine hcc.mono ?_
          rintro e w2 ⟨ca, cc, rfl, hrc, hk2⟩
          have hbx2 := (hk2.block (r + 1) (Array.getElem?_eq_some_iff.1 HRL.out.box).1 (fun f => f)).trans HRL.out.box
          have t1 : w2.cell? ⟨r + 1, 1, none⟩ = some (.slice none 0 0) := (cell_of_block hbx2 1).trans rfl
          have y1 := free_of_block hbx2 1
          have hks2 : Keeps (· = r + 1) w2 (w2.setCell ⟨r + 1, 1, none⟩ (.slice ca A.cells.length cc)) := Keeps.setCell (S := (· = r + 1)) w2 (a := ⟨r + 1, 1, none⟩) rfl _
          have hI2 := HI.out.kept hk2 (fun _ _ f => f)
          have hI3 : IsRef (w2.setCell ⟨r + 1, 1, none⟩ (.slice ca A.cells.length cc)) p vc vl A := hI2.kept hks2 (fun i e e2 => by
            rcases e with e | e | e
            · omega
            · subst e2; exact absurd (own_type hI2.cells e hbx2) (by decide)
            · subst e2; exact absurd (own_type hI2.log e hbx2) (by decide))
          have hbx3 := (setCell_block (i := 1) hbx2 (.slice ca A.cells.length cc)).trans rfl
          have hll := rlog_ok p vc vl A _ hI3 (by omega)
          have hkw2 := HRL.out.kp.trans hk2 (fun _ f _ => f)
          have hkw3 : Keeps None w (w2.setCell ⟨r + 1, 1, none⟩ (.slice ca A.cells.length cc)) := hkw2.trans hks2 (fun i e hi => by have := HRW.out; omega)
          have HC3 : Hid ((w2.setCell ⟨r + 1, 1, none⟩ (.slice ca A.cells.length cc)).ownsRow w.heap.size 2 1 (.slice ca A.cells.length cc) A.cells.length (A.cells.map (Value.int .i64)) ∧ (w2.setCell ⟨r + 1, 1, none⟩ (.slice ca A.cells.length cc)).ownsRow w.heap.size 41 3 (.slice va j vcp) j (effVals (effAt (Ar.watched k) M) j) ∧ (w2.setCell ⟨r + 1, 1, none⟩ (.slice ca A.cells.length cc)).heap[r]? = some (.cells #[.slice none 0 0, .slice none 0 0, .slice none 0 0] 27 (0, 0)) ∧ Keeps None w (w2.setCell ⟨r + 1, 1, none⟩ (.slice ca A.cells.length cc)) ∧ (w2.setCell ⟨r + 1, 1, none⟩ (.slice ca A.cells.length cc)).heap[r + 1]? = some (.cells #[.slice va j vcp, .slice ca A.cells.length cc, .slice none 0 0] 27 (0, 0))) := by
            have hrs2 := (hk2.block r (Array.getElem?_eq_some_iff.1 HRL.out.res).1 (fun f => f)).trans HRL.out.res
            have he2 := hk2.own HRL.out.eff (fun _ _ f => f)
            exact ⟨hks2.own (own_base hrc (fun g e => Nat.le_trans HRL.out.kp.size (own_low hrc e))) (fun g e e2 => by subst e2; exact absurd (own_type hrc e hbx2) (by decide)), hks2.own he2 (fun g e e2 => by subst e2; exact absurd (own_type he2 e hbx2) (by decide)), (hks2.block r (Array.getElem?_eq_some_iff.1 hrs2).1 (by omega)).trans hrs2, hkw3, hbx3⟩
          clear hcc hrc hk2 hbx2 hks2 hI2 hI3 hbx3 hkw2 hkw3 HI HRL
          go_wp2_with fail
          refine hll.mono ?_
          rintro e w4 ⟨la, lc, rfl, hrl, hk4⟩
          have hbx4 := (hk4.block (r + 1) (Array.getElem?_eq_some_iff.1 HC3.out.2.2.2.2).1 (fun f => f)).trans HC3.out.2.2.2.2
          have hrs4 := (hk4.block r (Array.getElem?_eq_some_iff.1 HC3.out.2.2.1).1 (fun f => f)).trans HC3.out.2.2.1
          have t2 : w4.cell? ⟨r + 1, 2, none⟩ = some (.slice none 0 0) := (cell_of_block hbx4 2).trans rfl
          have y2 := free_of_block hbx4 2
          have hks5 : Keeps (· = r + 1) w4 (w4.setCell ⟨r + 1, 2, none⟩ (.slice la A.log.length lc)) := Keeps.setCell (S := (· = r + 1)) w4 (a := ⟨r + 1, 2, none⟩) rfl _
          have hbx5 : (w4.setCell ⟨r + 1, 2, none⟩ (.slice la A.log.length lc)).heap[r + 1]? = some (.cells #[.slice va j vcp, .slice ca A.cells.length cc, .slice la A.log.length lc] 27 (0, 0)) := (setCell_block (i := 2) hbx4 _).trans rfl
          have hrs5 := (hks5.block r (Array.getElem?_eq_some_iff.1 hrs4).1 (by omega)).trans hrs4
          have u0 : (w4.setCell ⟨r + 1, 2, none⟩ (.slice la A.log.length lc)).cell? ⟨r + 1, 0, none⟩ = some (.slice va j vcp) := (cell_of_block hbx5 0).trans rfl
          have u1 : (w4.setCell ⟨r + 1, 2, none⟩ (.slice la A.log.length lc)).cell? ⟨r + 1, 1, none⟩ = some (.slice ca A.cells.length cc) := (cell_of_block hbx5 1).trans rfl
          have u2 : (w4.setCell ⟨r + 1, 2, none⟩ (.slice la A.log.length lc)).cell? ⟨r + 1, 2, none⟩ = some (.slice la A.log.length lc) := (cell_of_block hbx5 2).trans rfl
          have r0 : (w4.setCell ⟨r + 1, 2, none⟩ (.slice la A.log.length lc)).cell? ⟨r, 0, none⟩ = some (.slice none 0 0) := (cell_of_block hrs5 0).trans rfl
          have r1 : (w4.setCell ⟨r + 1, 2, none⟩ (.slice la A.log.length lc)).cell? ⟨r, 1, none⟩ = some (.slice none 0 0) := (cell_of_block hrs5 1).trans rfl
          have r2 : (w4.setCell ⟨r + 1, 2, none⟩ (.slice la A.log.length lc)).cell? ⟨r, 2, none⟩ = some (.slice none 0 0) := (cell_of_block hrs5 2).trans rfl
          have q0 := free_of_block hrs5 0
          have q1 := free_of_block hrs5 1
          have q2 := free_of_block hrs5 2
          have HP : Hid (∀ w', Keeps (· = r) (w4.setCell ⟨r + 1, 2, none⟩ (.slice la A.log.length lc)) w' → RPost w k j M (.returned (.tuple #[.agg #[.slice va j vcp, .slice ca A.cells.length cc, .slice la A.log.length lc], .int .i64 0])) w') := by
            intro w' hk7
            have e1 : runN k j = j := by unfold runN; rw [if_pos HE.out]
            have e2 : runA k j M = A := by unfold runA; rw [if_pos HE.out, HA.out]; rfl
            have e3 : runF (k : Int) M = effAt (Ar.watched k) M := rfl
            refine ⟨va, vcp, ca, cc, la, lc, by rw [e1, e2, HE.out], ?_, ((HC3.out.2.2.2.1.trans hk4 (fun _ f _ => f)).trans hks5 (fun i e hi => by have := HRW.out; omega)).trans hk7 (fun i e hi => by have := HRW.out; omega)⟩
            rw [e1, e2, e3]
            have hx : ∀ {T : TypeId} {size N : Nat} {v : Value} {xs : List Value}, T ≠ 27 → w4.ownsRow w.heap.size T size v N xs → w'.ownsRow w.heap.size T size v N xs := by
              intro T size N v xs hT ho
              have ho5 := hks5.own ho (fun g e e2 => by subst e2; exact hT (own_type ho e hbx4))
              exact hk7.own ho5 (fun g e e2 => by subst e2; exact hT (own_type ho5 e hrs5))
            exact ⟨hx (by decide) (hk4.own HC3.out.2.1 (fun _ _ f => f)), hx (by decide) (hk4.own HC3.out.1 (fun _ _ f => f)), hx (by decide) (own_base hrl (fun g e => Nat.le_trans HC3.out.2.2.2.1.size (own_low hrl e)))⟩
          have hrs6 : Hid ((w4.setCell ⟨r + 1, 2, none⟩ (.slice la A.log.length lc)).heap[r]? = some (.cells #[.slice none 0 0, .slice none 0 0, .slice none 0 0] 27 (0, 0))) := hrs5
          clear hll hrl hk4 hbx4 hrs4 hks5 hbx5 hrs5 HC3
          generalize A.cells.length = nc at *
          generalize A.log.length = nl at *
          go_wp2
          exact run_end rfl rfl hrs6.out rfl rfl _ _ _ (fun w' hk7 => HP.out w' hk7)
end Go.Proofs.Ytncbejpefokhhaa
