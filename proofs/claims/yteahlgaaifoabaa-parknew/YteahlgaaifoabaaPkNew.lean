import Derived.Test.YteahlgaaifoabaaDqArena
import Derived.Test.YteahlgaaifoabaaPkMm
import Derived.Test.YteahlgaaifoabaaDqSame
import Derived.Laws.OwnMore
import Derived.Deep.RegionHeld3
import Derived.Deep.DeepCutAuto
import Derived.Deep.QuietTactic
import Derived.BigQuiet
/-! 'New' of the lot, the program's and the document's. -/
namespace Go.Proofs.Yteahlgaaifoabaa
open Go.RowKit Go.HeapKit Go.IntWalk

theorem lot_ret {Q : Ending → World → Prop} {a : Act} {w1 : World} {g : Nat} {t : TypeId} {fn : Func} {v0 v1 : Value} (hfn : fn.results = #[.cell 4 32, .tmp 5]) (hb : w1.heap[g]? = some (.cells #[v0, v1] t (0, 0)))
    (ha : a.tmps.getD 4 undef = .pointer (some ⟨g, 0, none⟩)) (hd : a.defers = [])
    (hQ : Q (.returned (.tuple #[.agg #[v0, v1], a.tmps.getD 5 undef])) w1) :
    bodyPost Try.prog fn Q .ret a w1 := by
  have hl := run_loadVar_row (P := Try.prog) _ g t 32 _ _ _ hb Try.underlying32 rfl (by kernel_rfl)
  have ha' : a.tmps[4]?.getD undef = .pointer (some ⟨g, 0, none⟩) := by simpa using ha
  refine bodyPost_ret (v := .tuple #[.agg #[v0, v1], a.tmps.getD 5 undef]) ?_ hd hQ
  rw [results_cell_tmp hfn]
  simp [asAddr, ha', hl, Result.andThen]
theorem lot_end {Q : Ending → World → Prop} {a : Act} {w1 : World} {g : Nat} {c : Array Value} {t : TypeId} {fn : Func} (hfn : fn.results = #[.cell 4 32, .tmp 5]) (hc : c.size = 2) (hb : w1.heap[g]? = some (.cells c t (0, 0)))
    (ha : a.tmps.getD 4 undef = .pointer (some ⟨g, 0, none⟩)) (hd : a.defers = []) (v0 v1 : Value)
    (hQ : ∀ w', Keeps (· = g) w1 w' → Q (.returned (.tuple #[.agg #[v0, v1], a.tmps.getD 5 undef])) w') :
    bodyPost Try.prog fn Q .ret a ((w1.setCell ⟨g, 0, none⟩ v0).setCell ⟨g, 1, none⟩ v1) := by
  have hb2 := setCell_block (i := 1) (setCell_block (i := 0) hb v0) v1
  have hc3 : (c.setIfInBounds 0 v0).setIfInBounds 1 v1 = #[v0, v1] := by
    obtain ⟨l⟩ := c
    match l, hc with
    | [_, _], _ => rfl
  rw [hc3] at hb2
  exact lot_ret hfn hb2 ha hd (hQ _ ((Keeps.setCell (S := (· = g)) w1 (a := ⟨g, 0, none⟩) rfl _).andSet (x := ⟨g, 1, none⟩) (.inl rfl) _))
theorem rlot_ret {Q : Ending → World → Prop} {a : Act} {w1 : World} {g : Nat} {t : TypeId} {fn : Func} {v0 v1 : Value} (hfn : fn.results = #[.cell 4 36, .tmp 5]) (hb : w1.heap[g]? = some (.cells #[v0, v1] t (0, 0)))
    (ha : a.tmps.getD 4 undef = .pointer (some ⟨g, 0, none⟩)) (hd : a.defers = [])
    (hQ : Q (.returned (.tuple #[.agg #[v0, v1], a.tmps.getD 5 undef])) w1) :
    bodyPost Try.prog fn Q .ret a w1 := by
  have hl := run_loadVar_row (P := Try.prog) _ g t 36 _ _ _ hb Try.underlying36 rfl (by kernel_rfl)
  have ha' : a.tmps[4]?.getD undef = .pointer (some ⟨g, 0, none⟩) := by simpa using ha
  refine bodyPost_ret (v := .tuple #[.agg #[v0, v1], a.tmps.getD 5 undef]) ?_ hd hQ
  rw [results_cell_tmp hfn]
  simp [asAddr, ha', hl, Result.andThen]
theorem rlot_end {Q : Ending → World → Prop} {a : Act} {w1 : World} {g : Nat} {c : Array Value} {t : TypeId} {fn : Func} (hfn : fn.results = #[.cell 4 36, .tmp 5]) (hc : c.size = 2) (hb : w1.heap[g]? = some (.cells c t (0, 0)))
    (ha : a.tmps.getD 4 undef = .pointer (some ⟨g, 0, none⟩)) (hd : a.defers = []) (v0 v1 : Value)
    (hQ : ∀ w', Keeps (· = g) w1 w' → Q (.returned (.tuple #[.agg #[v0, v1], a.tmps.getD 5 undef])) w') :
    bodyPost Try.prog fn Q .ret a ((w1.setCell ⟨g, 0, none⟩ v0).setCell ⟨g, 1, none⟩ v1) := by
  have hb2 := setCell_block (i := 1) (setCell_block (i := 0) hb v0) v1
  have hc3 : (c.setIfInBounds 0 v0).setIfInBounds 1 v1 = #[v0, v1] := by
    obtain ⟨l⟩ := c
    match l, hc with
    | [_, _], _ => rfl
  rw [hc3] at hb2
  exact rlot_ret hfn hb2 ha hd (hQ _ ((Keeps.setCell (S := (· = g)) w1 (a := ⟨g, 0, none⟩) rfl _).andSet (x := ⟨g, 1, none⟩) (.inl rfl) _))
theorem meth3_reserve (p : Nat) (w : World) : (method 301 24 (.pointer (some ⟨p, 0, none⟩)) "Reserve").run Try.prog w = .ok (33, .pointer (some ⟨p, 0, none⟩)) w := by kernel_rfl
theorem nil3_reserve (p : Nat) (w : World) : (nilAhead 301 24 (.pointer (some ⟨p, 0, none⟩)) "Reserve").run Try.prog w = .ok (some false) w := by kernel_rfl
theorem AA.out {w w1 w4 w' : World} {p g : Nat} {F : Nat → Prop} {B : Ar} (h : AA w1 w4 p F B) (h01 : Keeps None w w1) (hg : w.heap.size ≤ g) (hg1 : g < w1.heap.size) (hF : ¬ F g) (hk : Keeps (· = g) w4 w') : AA w w' p F B := by
  obtain ⟨F', h1, h2, h3⟩ := h
  have := h01.size
  refine ⟨F', h1.kept hk (fun k f e => ?_), ((h01.mono (fun _ f _ => f.elim)).trans h2 (fun _ f _ => f)).trans hk (fun i e hi => by omega), fun k f => ?_⟩
  · subst e
    rcases h3 _ f with f | f
    · exact hF f
    · omega
  · rcases h3 k f with f | f
    · exact .inl f
    · exact .inr (by omega)
theorem more_len (A : Ar) (n : Nat) : (A.more n).cells.length = A.cells.length + n := by simp [Ar.more]
theorem noted_len (A : Ar) (x : Acc) : (A.noted x).cells.length = A.cells.length := by unfold Ar.noted; split <;> rfl
theorem noted_log (A : Ar) (x : Acc) : (A.noted x).log.length ≤ A.log.length + 1 := by unfold Ar.noted; split <;> simp
theorem more_log (A : Ar) (n : Nat) : (A.more n).log = A.log := rfl
/-- 'append([]int64(nothing), begin...)'. -/
theorem copy_begin (ao : Option Addr) (cap : Nat) (ys : List Int) (w : World) (hi : Ints w ao ys) (hn : ao = none → cap = 0) (hz : ys.length ≤ 4096) :
    ∃ v' w', (Builtin.append_ #[22, 22] 22 #[.slice (some ⟨w.heap.size, 0, none⟩) 0 0, .slice ao ys.length cap]).run Try.prog (w.alloc (.cells #[] 2)) = .ok v' w' ∧
      w'.ownsRow 0 2 1 v' ys.length (ys.map (Value.int .i64)) ∧ Keeps None w w' ∧ ∀ k, v'.ownBlock = some k → w.heap.size ≤ k := by
  obtain ⟨i0, hi0, hz0, hz1, hz2⟩ := info_parts Try.infoI64
  have hown : (w.alloc (.cells #[] 2)).ownsRow 0 2 1 (.slice (some ⟨w.heap.size, 0, none⟩) 0 0) 0 [] := World.ownsRow_lit w #[] 0 (Nat.zero_le _) (Nat.zero_le _) rfl
  have hka := Keeps.alloc None w (.cells #[] 2)
  match ao, hi, hn with
  | none, hi, hn =>
    obtain rfl : ys = [] := by
      match ys, hi with
      | [], _ => rfl
      | y :: ys, hi => obtain ⟨b, off, e, _⟩ := hi (by simp); cases e
    obtain rfl := hn rfl
    exact ⟨_, _, run_append_owned_none (P := Try.prog) _ 0 22 22 2 i0 1 Try.underlying22 hi0 _ _ _ hown, hown, hka, fun k e => by simp [Value.ownBlock] at e; omega⟩
  | some a, hi, _ =>
    obtain ⟨v', w', hr, ho, hg, hm, -⟩ := run_append_moved (P := Try.prog) (w.alloc (.cells #[] 2)) 0 22 22 2 i0 _ 1 8 Try.underlying22 hi0 hz0 hz1 hz2 rfl (by decide) _ 0 [] hown
      a ys.length cap (ys.map (Value.int .i64)) (by simp) (by
        intro j u hu
        have hj : j < ys.length := by simpa using (List.getElem?_eq_some_iff.1 hu).1
        obtain ⟨b, off, e, hb, hc⟩ := hi (by omega)
        obtain rfl : a = ⟨b, off, none⟩ := Option.some.inj e
        have hcj := hka.cell (hc j hj) (fun f => f)
        have hadd : (⟨b, off, none⟩ : Addr).add j = ⟨b, off + j, none⟩ := by unfold Addr.add; split <;> simp_all
        rw [hadd, hcj, ← hu, List.getElem?_map, List.getElem?_eq_getElem hj]
        simp only [List.getD, List.getElem?_eq_getElem hj, Option.getD_some, Option.map_some]) (by intro u hu; obtain ⟨y, _, rfl⟩ := List.mem_map.1 hu; rfl) (by unfold maxLen; omega) (by omega) (Nat.zero_le _)
    refine ⟨v', w', hr, by simpa using ho, hka.andGrown hg (fun k e => .inr (by simp [Value.ownBlock] at e; omega)), fun k e => ?_⟩
    rcases hm with hm | ⟨g, hm, hg⟩
    · rw [e] at hm; simp [Value.ownBlock] at hm; omega
    · rw [e] at hm; injection hm with hm; simp at hg; omega

def WkOK (n : Int) : Prop := 1 ≤ n ∧ n ≤ 64
theorem wf_ok (n : Int) (w : World) (h : WkOK n) : Calls Try.prog 34 #[.int .i64 n] w fun e w' => e = .returned (.bool true) ∧ w' = w := by
  obtain ⟨h1, h2⟩ := h
  go_enter Try.func34, Try.ntmps34
  go_wp2
  go_ret
  exact ⟨by simp, rfl⟩
theorem wf_bad (n : Int) (w : World) (h : ¬ WkOK n) : Calls Try.prog 34 #[.int .i64 n] w fun e w' => e = .returned (.bool false) ∧ w' = w := by
  by_cases h1 : 1 ≤ n
  · have h2 : ¬ n ≤ 64 := fun e => h ⟨h1, e⟩
    clear h
    go_enter Try.func34, Try.ntmps34
    go_wp2
    go_ret
    exact ⟨by simp, rfl⟩
  · clear h
    go_enter Try.func34, Try.ntmps34
    go_wp2
    go_ret
    exact ⟨by simp, rfl⟩
theorem pcells_ok (n : Nat) (w : World) (h : WkOK n) : Calls Try.prog 17 #[.int .i64 n] w fun e w' => e = .returned (.int .i64 (2 + n : Nat)) ∧ w' = w := by
  have hc := fun w => wf_ok n w h
  have h2 : (n : Int) ≤ 64 := h.2
  clear h
  go_enter Try.func17, Try.ntmps17
  go_wp2_with fail
  refine (hc _).mono ?_
  rintro e w' ⟨rfl, hw⟩
  have hw2 := hw.symm
  subst hw2
  clear hw hc
  go_wp2
  go_ret
  exact ⟨by simp, rfl⟩
theorem pcells_bad (n : Int) (w : World) (h : ¬ WkOK n) : Calls Try.prog 17 #[.int .i64 n] w fun e w' => e = .returned (.int .i64 0) ∧ w' = w := by
  have hc := fun w => wf_bad n w h
  clear h
  go_enter Try.func17, Try.ntmps17
  go_wp2_with fail
  refine (hc _).mono ?_
  rintro e w' ⟨rfl, hw⟩
  have hw2 := hw.symm
  subst hw2
  clear hw hc
  go_wp2
  go_ret
  exact ⟨rfl, rfl⟩
theorem rpcells_ok (n : Nat) (w : World) (h : WkOK n) : Calls Try.prog 18 #[.int .i64 n] w fun e w' => e = .returned (.int .i64 (2 + n : Nat)) ∧ w' = w := by
  obtain ⟨h1, h2⟩ := h
  have h3 : ¬ (n : Int) < 1 := by omega
  have h4 : ¬ (64 : Int) < n := by omega
  clear h1
  go_enter Try.func18, Try.ntmps18
  go_wp2
  go_ret
  exact ⟨by simp, rfl⟩
theorem rpcells_bad (n : Int) (w : World) (h : ¬ WkOK n) : Calls Try.prog 18 #[.int .i64 n] w fun e w' => e = .returned (.int .i64 0) ∧ w' = w := by
  by_cases h1 : n < 1
  · clear h
    go_enter Try.func18, Try.ntmps18
    go_wp2
    go_ret
    exact ⟨rfl, rfl⟩
  · have h2 : (64 : Int) < n := by unfold WkOK at h; omega
    clear h
    go_enter Try.func18, Try.ntmps18
    go_wp2
    go_ret
    exact ⟨rfl, rfl⟩
/-- Both Cells tell the same number. -/
theorem pcells_both (f : Int) : ∃ n : Int, (∀ w, Calls Try.prog 17 #[.int .i64 f] w fun e w' => e = .returned (.int .i64 n) ∧ w' = w) ∧ ∀ w, Calls Try.prog 18 #[.int .i64 f] w fun e w' => e = .returned (.int .i64 n) ∧ w' = w := by
  by_cases h : WkOK f
  · obtain ⟨f', rfl⟩ : ∃ f' : Nat, f = f' := ⟨f.toNat, by unfold WkOK at h; omega⟩
    exact ⟨_, fun w => pcells_ok f' w h, fun w => rpcells_ok f' w h⟩
  · exact ⟨0, fun w => pcells_bad f w h, fun w => rpcells_bad f w h⟩

theorem pnew_nil (f : Int) (w : World) : Calls Try.prog 11 #[.nilIface, .int .i64 f] w fun e w' => e = .returned (.tuple #[.agg #[.int .i64 0, .int .i64 0], .int .i64 1]) ∧ Keeps None w w' := by
  go_enter Try.func11, Try.ntmps11
  go_wp2
  refine lot_ret rfl (new_at w _ _ rfl) rfl rfl ⟨rfl, Keeps.alloc None w _⟩
theorem pnew_bad (p : Nat) (f : Int) (w : World) (h : ¬ WkOK f) : Calls Try.prog 11 #[.iface 24 (.pointer (some ⟨p, 0, none⟩)), .int .i64 f] w fun e w' => e = .returned (.tuple #[.agg #[.int .i64 0, .int .i64 0], .int .i64 3]) ∧ Keeps None w w' := by
  have hc := fun w => wf_bad f w h
  go_enter Try.func11, Try.ntmps11
  go_wp2_with fail
  refine (hc _).mono ?_
  rintro e w' ⟨rfl, hw⟩
  have hw2 := hw.symm
  subst hw2
  clear hw
  go_wp2
  refine lot_ret rfl (new_at w _ _ rfl) rfl rfl ⟨rfl, Keeps.alloc None w _⟩
def Ar.lotted (A : Ar) (n : Nat) : Ar := (A.more (2 + n)).noted ⟨0, 4, A.cells.length, (2 + n : Nat), 0, true⟩
set_option maxHeartbeats 4000000 in
set_option maxRecDepth 100000 in
theorem pnew_ok (p : Nat) (F : Nat → Prop) (A : Ar) (f : Nat) (w : World) (h : WkOK f) (hA : ArF w p F A) (hfit : A.cells.length + (2 + f) ≤ A.size) (_hsz : A.size ≤ 1048576) (hlog : A.log.length < 1000000) :
    Calls Try.prog 11 #[.iface 24 (.pointer (some ⟨p, 0, none⟩)), .int .i64 f] w fun e w' => e = .returned (.tuple #[.agg #[.int .i64 A.cells.length, .int .i64 f], .int .i64 0]) ∧ AA w w' p F (A.lotted f) := by
  have hc := fun w => wf_ok f w h
  have hb := fun w => pcells_ok f w h
  have hm1 := meth3_reserve p
  have hn1 := nil3_reserve p
  obtain ⟨n, hn⟩ : ∃ n, n = 2 + f := ⟨_, rfl⟩
  rw [← hn] at hb
  have hf64 : (f : Int) ≤ 64 := h.2
  have hr := arf_reserve p F A n ((w.alloc (.cells #[.int .i64 0, .int .i64 0] 32)).drew) ((hA.kept (Keeps.alloc None w _) (fun _ _ f => f)).kept (Keeps.drew None _) (fun _ _ f => f)) (by omega) (by omega) (by omega)
  have hlt : ∀ k, F k → k < w.heap.size := fun k f => hA.lt f
  have HA : Hid _ := And.intro hn hlt
  clear hA hn h hlt
  go_enter Try.func11, Try.ntmps11
  go_wp2_with fail
  refine (hc _).mono ?_
  rintro e w' ⟨rfl, hw⟩
  have hw2 := hw.symm
  subst hw2
  clear hw hc
  go_upto_region 5 with fail
  go_cut [6, 7] (fun s8 s9 wx => s8 = .int .i64 A.cells.length ∧ s9 = .int .i64 0 ∧ AA (w.alloc (.cells #[.int .i64 0, .int .i64 0] 32)).drew wx p F ((A.more n).noted ⟨0, 4, A.cells.length, n, 0, true⟩))
  case first =>
    go_region_held3 (fun _ => True) (trivial) (first
      | (go_at_call 17; refine (hb _).mono ?_; rintro e w' ⟨rfl, hw⟩; have hw2 := hw.symm; subst hw2; clear hw)
      | (go_at_call 33; refine hr.mono ?_; rintro e w1 ⟨rfl, hA1⟩))
    all_goals (go_wp2_with fail; go_meet)
    all_goals exact ⟨rfl, rfl, hA1⟩
  case rest =>
    obtain ⟨rfl, rfl, hA1⟩ := hcut
    have hno : ¬ F w.heap.size := fun f => by have := HA.out.2 _ f; omega
    have hb1 : wc.heap[w.heap.size]? = some (.cells #[.int .i64 0, .int .i64 0] 32 (0, 0)) := (hA1.choose_spec.2.1.block w.heap.size (by simp) hno).trans (new_at w _ _ rfl)
    have r0 := (cell_of_block hb1 0).trans rfl
    have r1 := (cell_of_block hb1 1).trans rfl
    have q0 := free_of_block hb1 0
    have q1 := free_of_block hb1 1
    have hE : AA (w.alloc (.cells #[.int .i64 0, .int .i64 0] 32)).drew wc p F (A.lotted f) := by
      unfold Ar.lotted; rw [← HA.out.1]; exact hA1
    have HE : Hid _ := hE
    clear hE hA1 hr hb hm1 hn1
    go_wp2
    refine lot_end rfl rfl hb1 rfl rfl _ _ (fun w' hk => ⟨rfl, AA.out HE.out ((Keeps.alloc None w _).andDrew) (Nat.le_refl _) (by simp) hno hk⟩)
set_option maxHeartbeats 4000000 in
set_option maxRecDepth 100000 in
theorem pnew_room (p : Nat) (F : Nat → Prop) (A : Ar) (f : Nat) (w : World) (h : WkOK f) (hA : ArF w p F A) (hfit : A.size < A.cells.length + (2 + f)) :
    Calls Try.prog 11 #[.iface 24 (.pointer (some ⟨p, 0, none⟩)), .int .i64 f] w fun e w' => e = .returned (.tuple #[.agg #[.int .i64 0, .int .i64 0], .int .i64 22]) ∧ Keeps None w w' := by
  have hc := fun w => wf_ok f w h
  have hb := fun w => pcells_ok f w h
  have hm1 := meth3_reserve p
  have hn1 := nil3_reserve p
  obtain ⟨n, hn⟩ : ∃ n, n = 2 + f := ⟨_, rfl⟩
  rw [← hn] at hb
  have hf64 : (f : Int) ≤ 64 := h.2
  obtain ⟨vc, vl, hI, -⟩ := hA
  have hI2 := (hI.kept (Keeps.alloc None w (.cells #[.int .i64 0, .int .i64 0] 32)) (fun _ _ f => f)).kept (Keeps.drew None _) (fun _ _ f => f)
  have hr := reserve_many p vc vl A n _ hI2 (by omega) (by omega)
  clear hn h hI hI2
  go_enter Try.func11, Try.ntmps11
  go_wp2_with fail
  refine (hc _).mono ?_
  rintro e w' ⟨rfl, hw⟩
  have hw2 := hw.symm
  subst hw2
  clear hw hc
  go_upto_region 5 with fail
  go_cut [6, 7] (fun s8 s9 wx => s8 = .int .i64 0 ∧ s9 = .int .i64 22 ∧ wx = (w.alloc (.cells #[.int .i64 0, .int .i64 0] 32)).drew)
  case first =>
    go_region_held3 (fun _ => True) (trivial) (first
      | (go_at_call 17; refine (hb _).mono ?_; rintro e w' ⟨rfl, hw⟩; have hw2 := hw.symm; subst hw2; clear hw)
      | (go_at_call 33; refine hr.mono ?_; rintro e w1 ⟨rfl, hw⟩; have hw2 := hw.symm; subst hw2; clear hw))
    all_goals (go_wp2_with fail; go_meet)
    all_goals exact ⟨rfl, rfl, rfl⟩
  case rest =>
    obtain ⟨rfl, rfl, hw⟩ := hcut
    subst hw
    clear hr hb hm1 hn1
    go_wp2
    refine lot_ret (g := w.heap.size) rfl ((Keeps.drew None _).block w.heap.size (by simp) (fun f => f) |>.trans (new_at w _ _ rfl)) rfl rfl ⟨rfl, (Keeps.alloc None w _).andDrew⟩

theorem rpnew_bad (p : Nat) (f : Int) (w : World) (h : ¬ WkOK f) : Calls Try.prog 12 #[.pointer (some ⟨p, 0, none⟩), .int .i64 f] w fun e w' => e = .returned (.tuple #[.agg #[.int .i64 0, .int .i64 0], .int .i64 3]) ∧ Keeps None w w' := by
  by_cases h1 : f < 1
  · clear h
    go_enter Try.func12, Try.ntmps12
    go_wp2
    refine rlot_ret rfl (new_at w _ _ rfl) rfl rfl ⟨rfl, Keeps.alloc None w _⟩
  · have h2 : (64 : Int) < f := by unfold WkOK at h; omega
    clear h
    go_enter Try.func12, Try.ntmps12
    go_wp2
    refine rlot_ret rfl (new_at w _ _ rfl) rfl rfl ⟨rfl, Keeps.alloc None w _⟩
set_option maxHeartbeats 4000000 in
set_option maxRecDepth 100000 in
theorem rpnew_ok (p : Nat) (F : Nat → Prop) (A : Ar) (f : Nat) (w : World) (h : WkOK f) (hA : MmF w p F A) (hfit : A.cells.length + (2 + f) ≤ A.size) (_hsz : A.size ≤ 1048576) (hlog : A.log.length < 1000000) :
    Calls Try.prog 12 #[.pointer (some ⟨p, 0, none⟩), .int .i64 f] w fun e w' => e = .returned (.tuple #[.agg #[.int .i64 A.cells.length, .int .i64 f], .int .i64 0]) ∧ MM w w' p F (A.lotted f) := by
  have h1 : ¬ (f : Int) < 1 := by have := h.1; omega
  have h2 : ¬ (64 : Int) < f := by have := h.2; omega
  have hr := mm_fits p F A (2 + (f : Int)) (2 + f) _ (by omega) (hA.kept (Keeps.alloc None w (.cells #[.int .i64 0, .int .i64 0] 36)) (fun _ _ f => f)) (by omega) hfit (by omega)
  have HF : Hid (∀ k, F k → k < w.heap.size) := fun k f => hA.lt f
  clear h hA
  go_enter Try.func12, Try.ntmps12
  go_wp2_with fail
  refine hr.mono ?_
  rintro e w1 ⟨rfl, hE⟩
  have hno : ¬ F w.heap.size := fun f => by have := HF.out _ f; omega
  have hb := (hE.choose_spec.2.1.block w.heap.size (by simp) hno).trans (new_at w _ _ rfl)
  have r0 := (cell_of_block hb 0).trans rfl
  have r1 := (cell_of_block hb 1).trans rfl
  have q0 := free_of_block hb 0
  have q1 := free_of_block hb 1
  have HE : Hid _ := hE
  clear hE hr
  go_wp2
  refine rlot_end rfl rfl hb rfl rfl _ _ (fun w' hk => ⟨rfl, MM.out HE.out (Keeps.alloc None w _) (Nat.le_refl _) (by simp) hno hk⟩)
set_option maxHeartbeats 4000000 in
set_option maxRecDepth 100000 in
theorem rpnew_room (p : Nat) (F : Nat → Prop) (A : Ar) (f : Nat) (w : World) (h : WkOK f) (hA : MmF w p F A) (hfit : A.size < A.cells.length + (2 + f)) :
    Calls Try.prog 12 #[.pointer (some ⟨p, 0, none⟩), .int .i64 f] w fun e w' => e = .returned (.tuple #[.agg #[.int .i64 0, .int .i64 0], .int .i64 22]) ∧ Keeps None w w' := by
  have h1 : ¬ (f : Int) < 1 := by have := h.1; omega
  have h2 : ¬ (64 : Int) < f := by have := h.2; omega
  have hr := mm_many p F A (2 + (f : Int)) (2 + f) _ (by omega) (hA.kept (Keeps.alloc None w (.cells #[.int .i64 0, .int .i64 0] 36)) (fun _ _ f => f)) (by omega) hfit (by omega)
  clear h hA
  go_enter Try.func12, Try.ntmps12
  go_wp2_with fail
  refine hr.mono ?_
  rintro e w1 ⟨rfl, hk⟩
  have hb := (hk.block w.heap.size (by simp) (fun f => f)).trans (new_at w _ _ rfl)
  have r0 := (cell_of_block hb 0).trans rfl
  have r1 := (cell_of_block hb 1).trans rfl
  have q0 := free_of_block hb 0
  have q1 := free_of_block hb 1
  clear hr
  go_wp2
  refine rlot_end rfl rfl hb rfl rfl _ _ (fun w' hk2 => ⟨rfl, ((Keeps.alloc None w _).trans hk (fun _ f _ => f)).trans hk2 (fun i e hi => by omega)⟩)
structure LAns where
  base : Int
  most : Int
  err : Int
  ar : Ar
open Classical in
noncomputable def lotAns (A : Ar) (f : Int) : LAns :=
  if WkOK f then if A.cells.length + (2 + f.toNat) ≤ A.size then ⟨A.cells.length, f, 0, A.lotted f.toNat⟩ else ⟨0, 0, 22, A⟩ else ⟨0, 0, 3, A⟩
theorem lotAns_log (A : Ar) (f : Int) : (lotAns A f).ar.log.length ≤ A.log.length + 3 := by
  unfold lotAns
  split
  · split
    · unfold Ar.lotted
      refine Nat.le_trans (noted_log _ _) ?_
      rw [more_log]
      omega
    · exact Nat.le_add_right _ _
  · exact Nat.le_add_right _ _
theorem pnew_any (p : Nat) (F : Nat → Prop) (A : Ar) (f : Int) (w : World) (hA : ArF w p F A) (hsz : A.size ≤ 1048576) (hlog : A.log.length < 1000000) :
    Calls Try.prog 11 #[.iface 24 (.pointer (some ⟨p, 0, none⟩)), .int .i64 f] w fun e w' => e = .returned (.tuple #[.agg #[.int .i64 (lotAns A f).base, .int .i64 (lotAns A f).most], .int .i64 (lotAns A f).err]) ∧ AA w w' p F (lotAns A f).ar := by
  have hq : ∀ {w'}, Keeps None w w' → AA w w' p F A := fun hk => ⟨F, hA.kept hk (fun _ _ f => f), hk.mono (fun _ f _ => f.elim), fun _ f => .inl f⟩
  by_cases h : WkOK f
  · obtain ⟨f', rfl⟩ : ∃ f' : Nat, f = f' := ⟨f.toNat, by unfold WkOK at h; omega⟩
    by_cases h2 : A.cells.length + (2 + f') ≤ A.size
    · have := pnew_ok p F A f' w h hA h2 hsz hlog
      simpa [lotAns, h, h2] using this
    · refine (pnew_room p F A f' w h hA (by omega)).mono ?_
      rintro e w' ⟨rfl, hk⟩
      have := hq hk
      simpa [lotAns, h, h2] using this
  · refine (pnew_bad p f w h).mono ?_
    rintro e w' ⟨rfl, hk⟩
    have := hq hk
    simpa [lotAns, h] using this
theorem rpnew_any (p : Nat) (F : Nat → Prop) (A : Ar) (f : Int) (w : World) (hA : MmF w p F A) (hsz : A.size ≤ 1048576) (hlog : A.log.length < 1000000) :
    Calls Try.prog 12 #[.pointer (some ⟨p, 0, none⟩), .int .i64 f] w fun e w' => e = .returned (.tuple #[.agg #[.int .i64 (lotAns A f).base, .int .i64 (lotAns A f).most], .int .i64 (lotAns A f).err]) ∧ MM w w' p F (lotAns A f).ar := by
  have hq : ∀ {w'}, Keeps None w w' → MM w w' p F A := fun hk => ⟨F, hA.kept hk (fun _ _ f => f), hk.mono (fun _ f _ => f.elim), fun _ f => .inl f⟩
  by_cases h : WkOK f
  · obtain ⟨f', rfl⟩ : ∃ f' : Nat, f = f' := ⟨f.toNat, by unfold WkOK at h; omega⟩
    by_cases h2 : A.cells.length + (2 + f') ≤ A.size
    · have := rpnew_ok p F A f' w h hA h2 hsz hlog
      simpa [lotAns, h, h2] using this
    · refine (rpnew_room p F A f' w h hA (by omega)).mono ?_
      rintro e w' ⟨rfl, hk⟩
      have := hq hk
      simpa [lotAns, h, h2] using this
  · refine (rpnew_bad p f w h).mono ?_
    rintro e w' ⟨rfl, hk⟩
    have := hq hk
    simpa [lotAns, h] using this
end Go.Proofs.Yteahlgaaifoabaa
