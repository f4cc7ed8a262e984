import Derived.Test.YtolhojagbiaamaaRbFirst
import Derived.Test.YtolhojagbiaamaaRcParallel
/-! First: the program's and the document's. -/
namespace Go.Proofs.Ytolhojagbiaamaa
set_option linter.unusedVariables false
set_option maxRecDepth 20000
set_option linter.unusedSimpArgs false
open Go.RowKit Go.HeapKit

theorem FirstP.rc {ds : List Dd} {n m : Nat} (h : FirstP ds n m) : rcB ds n = true := (rcB_iff ds n).2 ⟨m, h.ml, h.race⟩
theorem FirstP.uniq {ds : List Dd} {n m n' m' : Nat} (h : FirstP ds n m) (k : FirstP ds n' m') : n = n' ∧ m = m' := by
  have e : n = n' := by
    rcases Nat.lt_trichotomy n n' with e | e | e
    · have := k.no n e; rw [h.rc] at this; cases this
    · exact e
    · have := h.no n' e; rw [k.rc] at this; cases this
  subst e
  refine ⟨rfl, ?_⟩
  rcases Nat.lt_trichotomy m m' with e | e | e
  · exact (k.least m e h.race).elim
  · exact e
  · exact (h.least m' e k.race).elim
open Classical in
noncomputable def fstN (l : List Dd) : Option (Nat × Nat) := if h : chkE l = 0 ∧ ∃ p : Nat × Nat, FirstP l p.1 p.2 then some (Classical.choose h.2) else none
noncomputable def firX (l : List Dd) : Int := (fstN l).elim 0 (fun p => (p.1 : Int))
noncomputable def firY (l : List Dd) : Int := (fstN l).elim 0 (fun p => (p.2 : Int))
noncomputable def firZ (l : List Dd) : Int := (fstN l).elim 0 (fun p => lcN l p.1)
noncomputable def firB (l : List Dd) : Bool := (fstN l).isSome
theorem fst_some {l : List Dd} {n m : Nat} (hc : chkE l = 0) (h : FirstP l n m) : fstN l = some (n, m) := by
  have h0 : chkE l = 0 ∧ ∃ p : Nat × Nat, FirstP l p.1 p.2 := ⟨hc, (n, m), h⟩
  unfold fstN
  rw [dif_pos h0]
  obtain ⟨e1, e2⟩ := (Classical.choose_spec h0.2).uniq h
  exact congrArg some (Prod.ext e1 e2)
theorem fst_none {l : List Dd} (h : ∀ n, n < l.length → rcB l n = false) : fstN l = none := by
  unfold fstN
  rw [dif_neg]
  rintro ⟨_, p, hp⟩
  have := h p.1 hp.lt
  rw [hp.rc] at this
  cases this
theorem fst_bad {l : List Dd} (h : ¬ chkE l = 0) : fstN l = none := by
  unfold fstN
  rw [dif_neg (fun e => h e.1)]
/-- What First tells. -/
noncomputable def firV (l : List Dd) : Ending := .returned (.tuple #[.agg #[.int .i64 (firX l), .int .i64 (firY l), .int .i64 (firZ l)], .bool (firB l), .int .i64 (chkE l)])
theorem firV_some {l : List Dd} {n m : Nat} (hc : chkE l = 0) (h : FirstP l n m) : firV l = .returned (.tuple #[.agg #[.int .i64 (n : Nat), .int .i64 (m : Nat), .int .i64 (lcN l n)], .bool true, .int .i64 0]) := by
  unfold firV firX firY firZ firB; rw [fst_some hc h, hc]; rfl
theorem firV_none {l : List Dd} {E : Int} (hc : chkE l = E) (h : fstN l = none) : firV l = .returned (.tuple #[.agg #[.int .i64 0, .int .i64 0, .int .i64 0], .bool false, .int .i64 E]) := by
  unfold firV firX firY firZ firB; rw [h, hc]; rfl
theorem results_three {P : Program} {fn : Func} {q r s : Tmp} {t : TypeId} (h : fn.results = #[.cell q t, .tmp r, .tmp s]) {tmps : Array Value} {w : World} {g : Nat} (ha : tmps.getD q undef = .pointer (some ⟨g, 0, none⟩)) {v x y : Value} (hx : tmps.getD r undef = x) (hy : tmps.getD s undef = y)
    (hl : (loadVar t ⟨g, 0, none⟩).run P w = .ok v w) : (results fn tmps).run P w = .ok (.tuple #[v, x, y]) w := by
  have ha' : tmps[q]?.getD undef = .pointer (some ⟨g, 0, none⟩) := by simpa using ha
  have hx' : tmps[r]?.getD undef = x := by simpa using hx
  have hy' : tmps[s]?.getD undef = y := by simpa using hy
  simp [results, h, ha', hx', hy', asAddr, hl]
theorem fin_out {R : Ending → World → Prop} {fn : Func} (hfn : fn.results = #[.cell 2 40, .tmp 3, .tmp 4]) {tmps : Array Value} {V : World} {g : Nat} {x y z : Int} {b e : Value} (ha : tmps.getD 2 undef = .pointer (some ⟨g, 0, none⟩)) (hb : tmps.getD 3 undef = b) (he : tmps.getD 4 undef = e) (h2 : V.heap[g]? = some (.cells #[.int .i64 x, .int .i64 y, .int .i64 z] 40 (0, 0)))
    (hR : R (.returned (.tuple #[.agg #[.int .i64 x, .int .i64 y, .int .i64 z], b, e])) V) : bodyPost Try.prog fn R .ret { tmps := tmps, defers := [] } V :=
  bodyPost_ret (results_three hfn ha hb he (load_race _ _ _ _ _ h2)) rfl hR
set_option maxHeartbeats 4000000 in
theorem first_ok (a : Option Addr) (n c : Nat) (l : List Dd) (w : World) (hS : Seen w a n l) :
    Calls Try.prog 23 #[.slice a n c] w fun e w' => e = firV l ∧ Keeps None w w' := by
  have HS : Hid (Seen w a n l) := hS
  have HLen : Hid (n = l.length) := hS.len
  clear hS
  have kA := Keeps.alloc None w (.cells #[.int .i64 0, .int .i64 0, .int .i64 0] 40)
  have bA := heap_alloc_new w (.cells #[.int .i64 0, .int .i64 0, .int .i64 0] 40)
  obtain ⟨wa, hwa⟩ : ∃ wa, wa = w.alloc (.cells #[.int .i64 0, .int .i64 0, .int .i64 0] 40) := ⟨_, rfl⟩
  obtain ⟨s0, hs0⟩ : ∃ s0, s0 = w.heap.size := ⟨_, rfl⟩
  rw [← hwa] at kA bA
  rw [← hs0] at bA
  have HA : Hid (Keeps None w wa ∧ wa.heap[s0]? = some (.cells #[.int .i64 0, .int .i64 0, .int .i64 0] 40 (0, 0))) := ⟨kA, bA⟩
  have HW : Hid (wa = w.alloc (.cells #[.int .i64 0, .int .i64 0, .int .i64 0] 40) ∧ s0 = w.heap.size) := ⟨hwa, hs0⟩
  clear kA bA hwa hs0
  go_enter Try.func23, Try.ntmps23
  go_upto_region 1 with fail
  rw [← HW.out.1, ← HW.out.2]
  go_upto_region 2 with (go_at_call 10; refine Calls.mono (check_raw a n c l wa (HS.out.more HA.out.1)) ?_; rintro _ w1 ⟨rfl, hk1⟩)
  obtain ⟨E, hE⟩ : ∃ E, E = chkE l := ⟨_, rfl⟩
  obtain ⟨A1, hA1⟩ : ∃ A1, A1 = chkA l := ⟨_, rfl⟩
  rw [← hE, ← hA1]
  have b2 := heap_alloc_new w1 (.cells #[.int .i64 E, .int .i64 A1] 26)
  have k2 := hk1.andAlloc (.cells #[.int .i64 E, .int .i64 A1] 26)
  obtain ⟨w2, hw2⟩ : ∃ w2, w2 = w1.alloc (.cells #[.int .i64 E, .int .i64 A1] 26) := ⟨_, rfl⟩
  obtain ⟨B, hB⟩ : ∃ B, B = w1.heap.size := ⟨_, rfl⟩
  rw [← hw2] at b2 k2
  rw [← hB] at b2
  rw [← hw2, ← hB]
  have g0 : w2.cell? ⟨B, 0, none⟩ = some (.int .i64 E) := cell_of_heap b2 0
  have bs := blk_kept HA.out.2 k2 (fun f => f)
  have HK : Hid (Keeps None w w2 ∧ w2.heap[s0]? = some (.cells #[.int .i64 0, .int .i64 0, .int .i64 0] 40 (0, 0)) ∧ s0 = w.heap.size) := ⟨HA.out.1.trans k2 (fun _ f _ => f), bs, HW.out.2⟩
  have HE : Hid (chkE l = E) := hE.symm
  have hne0 : ¬ B = s0 := ne_of_types b2 bs (by decide)
  clear b2 k2 hw2 hB hE hA1 hk1 bs HA HW
  by_cases hE0 : E = 0
  · subst hE0
    obtain ⟨hn, hf⟩ := chk_fine HE.out
    have hn2 : n ≤ 4096 := by rw [HLen.out]; exact hn
    have HP : Hid (Calls Try.prog 39 #[.slice a n c] w2 fun e w' => ∃ (x y z : Int) (b : Bool), e = .returned (.tuple #[.agg #[.int .i64 x, .int .i64 y, .int .i64 z], .bool b]) ∧ firV l = .returned (.tuple #[.agg #[.int .i64 x, .int .i64 y, .int .i64 z], .bool b, .int .i64 0]) ∧ Keeps None w2 w') := (firstRace_ok w2 a n c l (HS.out.more HK.out.1) hf hn2).mono fun e w' h => by
      obtain ⟨hA, hk⟩ := h
      rcases hA with ⟨p, m, hF, rfl⟩ | ⟨hno, rfl⟩
      · exact ⟨_, _, _, _, rfl, firV_some HE.out hF, hk⟩
      · exact ⟨_, _, _, _, rfl, firV_none HE.out (fst_none hno), hk⟩
    clear hn hf
    have key : ∀ (x y z : Int) (b : Bool) (w3 : World), Keeps None w2 w3 → firV l = .returned (.tuple #[.agg #[.int .i64 x, .int .i64 y, .int .i64 z], .bool b, .int .i64 0]) → Hid (firV l = .returned (.tuple #[.agg #[.int .i64 x, .int .i64 y, .int .i64 z], .bool b, .int .i64 0]) ∧ ((((w3.setCell ⟨s0, 0, none⟩ (.int .i64 x)).setCell ⟨s0, 1, none⟩ (.int .i64 y)).setCell ⟨s0, 2, none⟩ (.int .i64 z)).alloc (.cells #[.int .i64 x, .int .i64 y, .int .i64 z] 40)).heap[s0]? = some (.cells #[.int .i64 x, .int .i64 y, .int .i64 z] 40 (0, 0)) ∧ Keeps None w ((((w3.setCell ⟨s0, 0, none⟩ (.int .i64 x)).setCell ⟨s0, 1, none⟩ (.int .i64 y)).setCell ⟨s0, 2, none⟩ (.int .i64 z)).alloc (.cells #[.int .i64 x, .int .i64 y, .int .i64 z] 40))) := fun x y z b w3 hk hv => by
      obtain ⟨g1, g2⟩ := set_race (x' := x) (y' := y) (z' := z) (blk_kept HK.out.2.1 hk (fun f => f))
      exact ⟨hv, blk_kept g1 (Keeps.alloc None _ _) (fun f => f), ((HK.out.1.trans hk (fun _ f _ => f)).trans g2 (fun i e hi => by have := HK.out.2.2; omega)).andAlloc _⟩
    go_upto_region 5 with (go_at_call 39; refine Calls.mono HP.out ?_; rintro _ w3 ⟨x, y, z, b, rfl, hv, hk3⟩)
    have HZ := key x y z b w3 hk3 hv
    have bs := blk_kept HK.out.2.1 hk3 (fun f => f)
    have c0 : w3.cell? ⟨s0, 0, none⟩ = some (.int .i64 0) := cell_of_heap bs 0
    have c1 : w3.cell? ⟨s0, 1, none⟩ = some (.int .i64 0) := cell_of_heap bs 1
    have c2 : w3.cell? ⟨s0, 2, none⟩ = some (.int .i64 0) := cell_of_heap bs 2
    have f0 := blk_free bs 0
    have f1 := blk_free bs 1
    have f2 := blk_free bs 2
    have hne : ¬ s0 = w3.heap.size := by have := blk_lt bs; omega
    have hne2 : s0 < w3.heap.size := blk_lt bs
    clear key hv hk3 bs HP
    go_wp2_with fail
    refine fin_out rfl rfl rfl rfl HZ.out.2.1 ⟨HZ.out.1.symm, HZ.out.2.2⟩
  · have HV : Hid _ := firV_none HE.out (fst_bad (fun h => hE0 (HE.out.symm.trans h)))
    obtain ⟨g1, g2⟩ := set_race (x' := 0) (y' := 0) (z' := 0) HK.out.2.1
    have c0 : w2.cell? ⟨s0, 0, none⟩ = some (.int .i64 0) := cell_of_heap HK.out.2.1 0
    have c1 : w2.cell? ⟨s0, 1, none⟩ = some (.int .i64 0) := cell_of_heap HK.out.2.1 1
    have c2 : w2.cell? ⟨s0, 2, none⟩ = some (.int .i64 0) := cell_of_heap HK.out.2.1 2
    have f0 := blk_free HK.out.2.1 0
    have f1 := blk_free HK.out.2.1 1
    have f2 := blk_free HK.out.2.1 2
    have k2 := HK.out.1.trans g2 (fun i e hi => by have := HK.out.2.2; omega)
    have HZ : Hid _ := And.intro g1 k2
    have d0 := g2.cell g0 (fun e => hne0 e)
    have hne1 : ¬ s0 = B := fun e => hne0 e.symm
    clear g1 g2 k2
    go_upto_region 3 with fail
    go_region
    all_goals go_wp2_with fail
    all_goals refine fin_out rfl rfl rfl rfl (blk_kept HZ.out.1 (Keeps.drew None _) (fun f => f)) ⟨HV.out.symm, HZ.out.2.andDrew⟩
end Go.Proofs.Ytolhojagbiaamaa
