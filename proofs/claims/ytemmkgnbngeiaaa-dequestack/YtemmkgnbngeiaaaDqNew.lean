import Derived.Test.YtemmkgnbngeiaaaDqArena
import Derived.Deep.RegionHeld3
import Derived.Deep.DeepCutAuto
import Derived.Deep.QuietTactic
import Derived.BigQuiet
/-! 'New' of the deque, on an arena. -/
namespace Go.Proofs.Ytemmkgnbngeiaaa
open Go.RowKit Go.HeapKit Go.IntWalk

def CapOK (f m : Int) : Prop := 1 ≤ f ∧ f ≤ m ∧ m ≤ 4096
theorem mostFits_any (m : Int) (w : World) : Calls Try.prog 55 #[.int .i64 m] w fun e w' => e = .returned (.bool (decide (1 ≤ m) && decide (m ≤ 4096))) ∧ w' = w := by
  by_cases h1 : 1 ≤ m <;> by_cases h2 : m ≤ 4096
  all_goals
    go_enter Try.func55, Try.ntmps55
    go_wp2
    go_ret
    exact ⟨by simp [h1, h2], rfl⟩
theorem capsFit_ok (f m : Int) (w : World) (h : CapOK f m) : Calls Try.prog 37 #[.int .i64 f, .int .i64 m] w fun e w' => e = .returned (.bool true) ∧ w' = w := by
  obtain ⟨h1, h2, h3⟩ := h
  have hm := mostFits_any m
  have e1 : (decide (1 ≤ m) && decide (m ≤ 4096)) = true := by simp; omega
  rw [e1] at hm
  clear e1
  go_enter Try.func37, Try.ntmps37
  go_wp2_with (go_at_call 55; refine (hm _).mono ?_; rintro e w' ⟨rfl, rfl⟩)
  go_ret
  exact ⟨rfl, rfl⟩
theorem capsFit_bad (f m : Int) (w : World) (h : ¬ CapOK f m) : Calls Try.prog 37 #[.int .i64 f, .int .i64 m] w fun e w' => e = .returned (.bool false) ∧ w' = w := by
  by_cases h1 : 1 ≤ f
  · by_cases h2 : f ≤ m
    · have hm := mostFits_any m
      have e1 : (decide (1 ≤ m) && decide (m ≤ 4096)) = false := by simp; intro; unfold CapOK at h; omega
      rw [e1] at hm
      clear e1 h
      go_enter Try.func37, Try.ntmps37
      go_wp2_with (go_at_call 55; refine (hm _).mono ?_; rintro e w' ⟨rfl, rfl⟩)
      go_ret
      exact ⟨rfl, rfl⟩
    · clear h
      go_enter Try.func37, Try.ntmps37
      go_wp2
      go_ret
      exact ⟨rfl, rfl⟩
  · clear h
    go_enter Try.func37, Try.ntmps37
    go_wp2
    go_ret
    exact ⟨rfl, rfl⟩
theorem bufferCells_any (n : Nat) (w : World) (hn : n ≤ 4096) : Calls Try.prog 38 #[.int .i64 n] w fun e w' => e = .returned (.int .i64 (1 + n : Nat)) ∧ w' = w := by
  go_enter Try.func38, Try.ntmps38
  go_wp2
  go_ret
  exact ⟨by simp, rfl⟩
theorem buf_any (n : Nat) (m : Int) (hn : n ≤ 1048576) (w : World) : Calls Try.prog 39 #[.agg #[.int .i64 n, .int .i64 m]] w fun e w' => e = .returned (.int .i64 (n + 2 : Nat)) ∧ Keeps None w w' := by
  go_enter Try.func39, Try.ntmps39
  go_wp2
  go_ret
  exact ⟨by simp, Keeps.alloc None w _⟩
/-- The end of a function with a deque in the block g and a number. -/
theorem deq_ret {Q : Ending → World → Prop} {a : Act} {w1 : World} {g : Nat} {t : TypeId} {fn : Func} {v0 v1 : Value} (hfn : fn.results = #[.cell 6 32, .tmp 7]) (hb : w1.heap[g]? = some (.cells #[v0, v1] t (0, 0)))
    (ha : a.tmps.getD 6 undef = .pointer (some ⟨g, 0, none⟩)) (hd : a.defers = [])
    (hQ : Q (.returned (.tuple #[.agg #[v0, v1], a.tmps.getD 7 undef])) w1) :
    bodyPost Try.prog fn Q .ret a w1 := by
  have hl := run_loadVar_row (P := Try.prog) _ g t 32 _ _ _ hb Try.underlying32 rfl (by kernel_rfl)
  have ha' : a.tmps[6]?.getD undef = .pointer (some ⟨g, 0, none⟩) := by simpa using ha
  refine bodyPost_ret (v := .tuple #[.agg #[v0, v1], a.tmps.getD 7 undef]) ?_ hd hQ
  rw [results_cell_tmp hfn]
  simp [asAddr, ha', hl, Result.andThen]
theorem deq_end {Q : Ending → World → Prop} {a : Act} {w1 : World} {g : Nat} {c : Array Value} {t : TypeId} {fn : Func} (hfn : fn.results = #[.cell 6 32, .tmp 7]) (hc : c.size = 2) (hb : w1.heap[g]? = some (.cells c t (0, 0)))
    (ha : a.tmps.getD 6 undef = .pointer (some ⟨g, 0, none⟩)) (hd : a.defers = []) (v0 v1 : Value)
    (hQ : ∀ w', Keeps (· = g) w1 w' → Q (.returned (.tuple #[.agg #[v0, v1], a.tmps.getD 7 undef])) w') :
    bodyPost Try.prog fn Q .ret a ((w1.setCell ⟨g, 0, none⟩ v0).setCell ⟨g, 1, none⟩ v1) := by
  have hb2 := setCell_block (i := 1) (setCell_block (i := 0) hb v0) v1
  have hc3 : (c.setIfInBounds 0 v0).setIfInBounds 1 v1 = #[v0, v1] := by
    obtain ⟨l⟩ := c
    match l, hc with
    | [_, _], _ => rfl
  rw [hc3] at hb2
  exact deq_ret hfn hb2 ha hd (hQ _ ((Keeps.setCell (S := (· = g)) w1 (a := ⟨g, 0, none⟩) rfl _).andSet (x := ⟨g, 1, none⟩) (.inl rfl) _))

theorem meth3_store (p : Nat) (w : World) : (method 259 24 (.pointer (some ⟨p, 0, none⟩)) "Store").run Try.prog w = .ok (35, .pointer (some ⟨p, 0, none⟩)) w := by kernel_rfl
theorem meth3_reserve (p : Nat) (w : World) : (method 259 24 (.pointer (some ⟨p, 0, none⟩)) "Reserve").run Try.prog w = .ok (34, .pointer (some ⟨p, 0, none⟩)) w := by kernel_rfl

theorem nil3_store (p : Nat) (w : World) : (nilAhead 259 24 (.pointer (some ⟨p, 0, none⟩)) "Store").run Try.prog w = .ok (some false) w := by kernel_rfl
theorem nil3_reserve (p : Nat) (w : World) : (nilAhead 259 24 (.pointer (some ⟨p, 0, none⟩)) "Reserve").run Try.prog w = .ok (some false) w := by kernel_rfl

def Ar.laid (A : Ar) (f : Nat) : Ar :=
  ((((((A.more (4 + f)).noted ⟨0, 4, A.cells.length, (4 + f : Nat), 0, true⟩).put (A.cells.length + 2) ((A.cells.length : Int) + 3)).noted ⟨0, 1, (A.cells.length + 2 : Nat), (A.cells.length : Int) + 3, 0, true⟩).put (A.cells.length + 3) f).noted ⟨0, 1, (A.cells.length + 3 : Nat), f, 0, true⟩)
theorem arf_store_int (p : Nat) (F : Nat → Prop) (A : Ar) (x : Int) (k : Nat) (v : Int) (w : World) (hxk : x = k) (h : ArF w p F A) (hx : k < A.cells.length) (hlog : A.log.length < 1000000000000) :
    Calls Try.prog 35 #[.pointer (some ⟨p, 0, none⟩), .int .i64 x, .int .i64 v] w fun e w' => e = .returned (.int .i64 0) ∧ AA w w' p F ((A.put k v).noted ⟨0, 1, k, v, 0, true⟩) := by
  subst hxk
  exact arf_store p F A k v w h hx hlog
theorem dnew_nil (f m : Int) (w : World) : Calls Try.prog 11 #[.nilIface, .int .i64 f, .int .i64 m] w fun e w' => e = .returned (.tuple #[.agg #[.int .i64 0, .int .i64 0], .int .i64 1]) ∧ Keeps None w w' := by
  go_enter Try.func11, Try.ntmps11
  go_wp2
  refine deq_ret rfl (new_at w _ _ rfl) rfl rfl ⟨rfl, Keeps.alloc None w _⟩
set_option maxHeartbeats 4000000 in
set_option maxRecDepth 100000 in
theorem dnew_bad (p : Nat) (f m : Int) (w : World) (h : ¬ CapOK f m) : Calls Try.prog 11 #[.iface 24 (.pointer (some ⟨p, 0, none⟩)), .int .i64 f, .int .i64 m] w fun e w' => e = .returned (.tuple #[.agg #[.int .i64 0, .int .i64 0], .int .i64 30]) ∧ Keeps None w w' := by
  have hc := fun w => capsFit_bad f m w h
  go_enter Try.func11, Try.ntmps11
  go_wp2_with fail
  refine (hc _).mono ?_
  rintro e w' ⟨rfl, hw⟩
  have hw2 := hw.symm
  subst hw2
  clear hw
  go_wp2
  refine deq_ret rfl (new_at w _ _ rfl) rfl rfl ⟨rfl, Keeps.alloc None w _⟩
theorem keep2 {S : Nat → Prop} {w w' : World} (a b : Addr) {u v : Value} (hk : Keeps S w w') (ha : ¬ S a.block) (hb : ¬ S b.block) (h : w.cell? a = some u ∧ w.cell? b = some v) : w'.cell? a = some u ∧ w'.cell? b = some v :=
  ⟨hk.cell h.1 ha, hk.cell h.2 hb⟩
theorem AA.out {w w1 w4 w' : World} {p g : Nat} {F : Nat → Prop} {B : Ar} (h : AA w1 w4 p F B) (h01 : Keeps None w w1) (hg : w.heap.size ≤ g) (hg1 : g < w1.heap.size) (hF : ¬ F g) (hk : Keeps (· = g) w4 w') : AA w w' p F B := by
  obtain ⟨F', h1, h2, h3⟩ := h
  have := h01.size
  refine ⟨F', h1.kept hk (fun k f e => ?_), ((h01.mono (fun _ f _ => f.elim)).trans h2 (fun _ f _ => f)).trans hk (fun i e hi => by omega), fun k f => ?_⟩
  · subst e
    rcases h3 _ f with f | f
    · exact hF f
    · omega
  · rcases h3 k f with f | f
    · exact .inl f
    · exact .inr (by omega)
theorem more_len (A : Ar) (n : Nat) : (A.more n).cells.length = A.cells.length + n := by simp [Ar.more]
theorem noted_len (A : Ar) (x : Acc) : (A.noted x).cells.length = A.cells.length := by unfold Ar.noted; split <;> rfl
theorem put_len (A : Ar) (k : Nat) (v : Int) : (A.put k v).cells.length = A.cells.length := by simp [Ar.put]
theorem noted_log (A : Ar) (x : Acc) : (A.noted x).log.length ≤ A.log.length + 1 := by unfold Ar.noted; split <;> simp
theorem more_log (A : Ar) (n : Nat) : (A.more n).log = A.log := rfl
theorem put_log (A : Ar) (k : Nat) (v : Int) : (A.put k v).log = A.log := rfl
set_option maxHeartbeats 4000000 in
set_option maxRecDepth 100000 in
theorem dnew_ok (p : Nat) (F : Nat → Prop) (A : Ar) (f m : Nat) (w : World) (h : CapOK f m) (hA : ArF w p F A) (hfit : A.cells.length + (4 + f) ≤ A.size) (hsz : A.size ≤ 1048576) (hlog : A.log.length < 1000000) :
    Calls Try.prog 11 #[.iface 24 (.pointer (some ⟨p, 0, none⟩)), .int .i64 f, .int .i64 m] w fun e w' => e = .returned (.tuple #[.agg #[.int .i64 A.cells.length, .int .i64 m], .int .i64 0]) ∧ AA w w' p F (A.laid f) := by
  have hc := fun w => capsFit_ok f m w h
  have hf4 : f ≤ 4096 := by have := h; unfold CapOK at this; omega
  have hb := fun w => bufferCells_any f w hf4
  have hm1 := meth3_reserve p
  have hm2 := meth3_store p
  have hn1 := nil3_reserve p
  have hn2 := nil3_store p
  obtain ⟨n, hn⟩ : ∃ n, n = 4 + f := ⟨_, rfl⟩
  have e3 : IntKind.i64.wrap (3 + (1 + (f : Int))) = (n : Int) := by rw [i64_in _ (by omega)]; omega
  have hr := arf_reserve p F A n ((w.alloc (.cells #[.int .i64 0, .int .i64 0] 32)).drew) ((hA.kept (Keeps.alloc None w _) (fun _ _ f => f)).kept (Keeps.drew None _) (fun _ _ f => f)) (by omega) (by omega) (by omega)
  have hlt : ∀ k, F k → k < w.heap.size := fun k f => hA.lt f
  have HA : Hid _ := And.intro hn hlt
  clear hA hn h hlt
  go_enter Try.func11, Try.ntmps11
  go_wp2_with fail
  refine (hc _).mono ?_
  rintro e w' ⟨rfl, hw⟩
  have hw2 := hw.symm
  subst hw2
  clear hw hc
  go_upto_region 5 with fail
  go_cut [8, 9] (fun s8 s9 wx => s8 = .int .i64 A.cells.length ∧ s9 = .int .i64 0 ∧ AA (w.alloc (.cells #[.int .i64 0, .int .i64 0] 32)).drew wx p F ((A.more n).noted ⟨0, 4, A.cells.length, n, 0, true⟩))
  case first =>
    go_region_held3 (fun _ => True) (trivial) (first
      | (go_at_call 38; refine (hb _).mono ?_; rintro e w' ⟨rfl, hw⟩; have hw2 := hw.symm; subst hw2; clear hw)
      | (go_at_call 34; refine hr.mono ?_; rintro e w1 ⟨rfl, hA1⟩))
    all_goals (go_wp2_with fail; go_meet)
    all_goals exact ⟨rfl, rfl, hA1⟩
  case rest =>
    obtain ⟨rfl, rfl, F1, hF1, hk1, hf1⟩ := hcut
    obtain ⟨wb, hwb⟩ : ∃ wb, wb = wc := ⟨_, rfl⟩
    subst hwb
    have hn4 : 4 + f ≤ n := by have := HA.out.1; omega
    have hs1 := hk1.size
    have hb1 : wb.heap[w.heap.size]? = some (.cells #[.int .i64 0, .int .i64 0] 32 (0, 0)) := (hk1.block w.heap.size (by simp) (fun f => by have := HA.out.2 _ f; omega)).trans (new_at w _ _ rfl)
    have hl1 : ((A.more n).noted ⟨0, 4, A.cells.length, n, 0, true⟩).cells.length = A.cells.length + n := by rw [noted_len, more_len]
    have hg1 : ((A.more n).noted ⟨0, 4, A.cells.length, n, 0, true⟩).log.length ≤ A.log.length + 1 := noted_log _ _
    have hA1 : Hid (ArF wb p F1 ((A.more n).noted ⟨0, 4, A.cells.length, n, 0, true⟩)) := hF1
    have HK1 : Hid _ := And.intro hk1 (And.intro hf1 hs1)
    have hbf := buf_any A.cells.length m (by omega)
    clear hF1 hk1 hf1 hs1 hr hb hm1 hn1 e3
    generalize hA1e : (A.more n).noted ⟨0, 4, A.cells.length, n, 0, true⟩ = A1 at hA1 hl1 hg1
    have HA1e : Hid _ := hA1e
    clear hA1e
    go_upto_region 10 with fail
    go_cut [12] (fun s12 wx => s12 = .int .i64 0 ∧ wx.cell? ⟨wb.heap.size, 0, none⟩ = some (.int .i64 A.cells.length) ∧ wx.cell? ⟨wb.heap.size, 1, none⟩ = some (.int .i64 m) ∧ AA (wb.alloc (.cells #[.int .i64 A.cells.length, .int .i64 m] 32)).drew wx p F1 ((A1.put (A.cells.length + 2) ((A.cells.length : Int) + 3)).noted ⟨0, 1, (A.cells.length + 2 : Nat), (A.cells.length : Int) + 3, 0, true⟩))
    case first =>
      have hd := new_at wb (.cells #[.int .i64 A.cells.length, .int .i64 m] 32) _ rfl
      have hlt1 : ∀ k, F1 k → k < wb.heap.size := fun k f => hA1.out.lt f
      have hno : ¬ F1 wb.heap.size := fun f => by have := hlt1 _ f; omega
      have HN : Hid (¬ F1 wb.heap.size) := hno
      clear hno hlt1
      go_region_held3 (fun w' => w'.cell? ⟨wb.heap.size, 0, none⟩ = some (.int .i64 A.cells.length) ∧ w'.cell? ⟨wb.heap.size, 1, none⟩ = some (.int .i64 m)) (first | exact hs3 | exact hs2 | go_keep) (first
        | (go_at_call 39; refine (hbf _).mono ?_; rintro e w2 ⟨rfl, hk2⟩; have hs2 := keep2 ⟨wb.heap.size, 0, none⟩ ⟨wb.heap.size, 1, none⟩ hk2 (fun f => f) (fun f => f) (by assumption))
        | (go_at_call 35; refine (arf_store_int p F1 A1 _ (A.cells.length + 2) _ w2 (by omega) (((hA1.out.kept (Keeps.alloc None wb _) (fun _ _ f => f)).kept (Keeps.drew None _) (fun _ _ f => f)).kept hk2 (fun _ _ f => f)) (by omega) (by omega)).mono ?_; rintro e w3 ⟨rfl, hA3⟩; have hs3 := keep2 ⟨wb.heap.size, 0, none⟩ ⟨wb.heap.size, 1, none⟩ hA3.choose_spec.2.1 HN.out HN.out hs2))
      all_goals (go_wp2_with fail; go_meet)
      all_goals exact ⟨rfl, hs3.1, hs3.2, AA.trans (hk2.mono (fun _ f _ => f.elim)) (fun _ f => .inl f) hA3⟩
    case rest =>
      obtain ⟨rfl, hd0, hd1, F2, hF2, hk2, hf2⟩ := hcut
      have hl2 : ((A1.put (A.cells.length + 2) ((A.cells.length : Int) + 3)).noted ⟨0, 1, (A.cells.length + 2 : Nat), (A.cells.length : Int) + 3, 0, true⟩).cells.length = A.cells.length + n := by rw [noted_len, put_len, hl1]
      have hg2 : ((A1.put (A.cells.length + 2) ((A.cells.length : Int) + 3)).noted ⟨0, 1, (A.cells.length + 2 : Nat), (A.cells.length : Int) + 3, 0, true⟩).log.length ≤ A.log.length + 2 := by
        have := noted_log (A1.put (A.cells.length + 2) ((A.cells.length : Int) + 3)) ⟨0, 1, (A.cells.length + 2 : Nat), (A.cells.length : Int) + 3, 0, true⟩
        rw [put_log] at this
        omega
      have hst := arf_store_int p F2 _ ((A.cells.length : Int) + 3) (A.cells.length + 3) f wc (by omega) hF2 (by rw [hl2]; omega) (by omega)
      have hno1 : ¬ F1 w.heap.size := fun f => by
        rcases HK1.out.2.1 _ f with f | f
        · have := HA.out.2 _ f; omega
        · simp at f; omega
      have hno2 : ¬ F2 w.heap.size := fun f => by
        have := HK1.out.2.2
        rcases hf2 _ f with f | f
        · exact hno1 f
        · simp at f this; omega
      have hno3 : ¬ F2 wb.heap.size := fun f => by
        rcases hf2 _ f with f | f
        · have := hA1.out.lt f; omega
        · simp at f; omega
      have hr2 : wc.heap[w.heap.size]? = some (.cells #[.int .i64 0, .int .i64 0] 32 (0, 0)) := by
        have hs := HK1.out.2.2
        simp at hs
        exact (((Keeps.alloc F1 wb _).andDrew.trans hk2 (fun _ f _ => f)).block w.heap.size (by omega) hno1).trans hb1
      have H2 : Hid _ := And.intro hk2 (And.intro hf2 (And.intro hno2 (And.intro hno3 hr2)))
      have HD : Hid _ := And.intro hd0 hd1
      clear hF2 hk2 hf2 hno1 hno2 hno3 hr2 hd0 hd1 hl2 hg2 hb1 hbf
      go_wp2_with fail
      refine hst.mono ?_
      rintro e w4 ⟨rfl, hA4⟩
      have hk4 := hA4.choose_spec.2.1
      have hr4 := (hk4.block w.heap.size (Array.getElem?_eq_some_iff.1 H2.out.2.2.2.2).1 H2.out.2.2.1).trans H2.out.2.2.2.2
      obtain ⟨d0, d1⟩ := keep2 ⟨wb.heap.size, 0, none⟩ ⟨wb.heap.size, 1, none⟩ hk4 H2.out.2.2.2.1 H2.out.2.2.2.1 HD.out
      have r0 := (cell_of_block hr4 0).trans rfl
      have r1 := (cell_of_block hr4 1).trans rfl
      have q0 := free_of_block hr4 0
      have q1 := free_of_block hr4 1
      have hneg : ¬ w.heap.size = wb.heap.size := by have := HK1.out.2.2; simp at this; omega
      have hE : AA (w.alloc (.cells #[.int .i64 0, .int .i64 0] 32)).drew w4 p F (A.laid f) := by
        have h2 := AA.trans ((Keeps.alloc F1 wb _).andDrew.trans H2.out.1 (fun _ f _ => f)) (fun k f => by
          rcases H2.out.2.1 k f with f | f
          · exact .inl f
          · exact .inr (by simp at f; omega)) hA4
        have h1 := AA.trans HK1.out.1 HK1.out.2.1 h2
        rw [← HA1e.out, HA.out.1] at h1
        exact h1
      have HE : Hid _ := hE
      clear hE hA4 hk4
      go_wp2
      refine deq_end rfl rfl hr4 rfl rfl _ _ (fun w' hk => ⟨rfl, AA.out HE.out ((Keeps.alloc None w _).andDrew) (Nat.le_refl _) (by simp) (fun f => by have := HA.out.2 _ f; omega) hk⟩)
end Go.Proofs.Ytemmkgnbngeiaaa
