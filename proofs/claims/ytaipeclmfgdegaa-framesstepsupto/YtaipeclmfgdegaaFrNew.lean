import Derived.Test.YtaipeclmfgdegaaFrBegin
import Derived.Test.YtaipeclmfgdegaaFrPl
/-! New and Cells, on an arena. -/
namespace Go.Proofs.Ytaipeclmfgdegaa
open Go.RowKit Go.HeapKit Go.IntWalk

def cellsV (f : Int) : Int := if 1 ≤ f ∧ f ≤ 4096 then 1 + f * 10 else 0
theorem fcells_any (f : Int) (w : World) : Calls Try.prog 7 #[.int .i64 f] w fun e w' => e = .returned (.int .i64 (cellsV f)) ∧ w' = w := by
  have hf := framesFit_any f
  unfold cellsV
  by_cases h : 1 ≤ f ∧ f ≤ 4096
  · rw [if_pos h]
    rw [decide_eq_true h] at hf
    obtain ⟨h1, h2⟩ := h
    go_enter Try.func7, Try.ntmps7
    go_wp2_with (go_at_call 28; refine (hf _).mono ?_; rintro e w' ⟨rfl, rfl⟩)
    go_ret
    exact ⟨rfl, rfl⟩
  · rw [if_neg h]
    rw [decide_eq_false h] at hf
    go_enter Try.func7, Try.ntmps7
    go_wp2_with (go_at_call 28; refine (hf _).mono ?_; rintro e w' ⟨rfl, rfl⟩)
    go_ret
    exact ⟨rfl, rfl⟩
/-- Within New: the block for the result, the arena. -/
structure MidT (w wx : World) (p : Nat) (F F1 : Nat → Prop) (B : Ar) : Prop where
  res : wx.heap[w.heap.size]? = some (.cells #[.int .i64 0, .int .i64 0] 39 (0, 0))
  ar : ArF wx p F1 B
  kp : Keeps F w wx
  fo : ∀ k, F1 k → F k ∨ w.heap.size + 1 ≤ k
  lo : ∀ k, F k → k < w.heap.size
section
variable {w wx wy : World} {p : Nat} {F F1 : Nat → Prop} {A B : Ar}
theorem MidT.start (h : ArF w p F A) : MidT w (w.alloc (.cells #[.int .i64 0, .int .i64 0] 39)) p F F A :=
  ⟨new_at _ _ _ rfl, h.kept (Keeps.alloc None w _) (fun _ _ f => f), (Keeps.refl F w).andAlloc _, fun _ f => .inl f, fun _ f => h.lt f⟩
theorem MidT.lt (h : MidT w wx p F F1 B) : w.heap.size < wx.heap.size := (Array.getElem?_eq_some_iff.1 h.res).1
theorem MidT.off (h : MidT w wx p F F1 B) : ¬ F1 w.heap.size := fun f => by rcases h.fo _ f with f | f; have := h.lo _ f; omega; omega
theorem MidT.kept (h : MidT w wx p F F1 B) (hk : Keeps None wx wy) : MidT w wy p F F1 B :=
  ⟨(hk.block _ h.lt (fun f => f)).trans h.res, h.ar.kept hk (fun _ _ f => f), h.kp.trans hk (fun _ f _ => f.elim), h.fo, h.lo⟩
theorem MidT.acc (h : MidT w wx p F F1 A) (h2 : AA wx wy p F1 B) : ∃ F2, MidT w wy p F F2 B ∧ (∀ k, F2 k → F1 k ∨ wx.heap.size ≤ k) ∧ Keeps F1 wx wy := by
  obtain ⟨F2, g, hk, hf⟩ := h2
  have := h.lt
  refine ⟨F2, ⟨(hk.block _ h.lt h.off).trans h.res, g, h.kp.trans hk (fun i f hi => ?_), fun k f => ?_, h.lo⟩, hf, hk⟩
  · rcases h.fo i f with f | f
    · exact f
    · omega
  · rcases hf k f with f | f
    · exact h.fo k f
    · exact .inr (by omega)
theorem MidT.fin (h : MidT w wx p F F1 B) (hk : Keeps (· = w.heap.size) wx wy) : AA w wy p F B :=
  ⟨F1, h.ar.kept hk (fun k f e => h.off (e ▸ f)), h.kp.trans hk (fun i e hi => by omega), fun k f => by
    rcases h.fo k f with f | f
    · exact .inl f
    · exact .inr (by omega)⟩
end
theorem tab_end {Q : Ending → World → Prop} {a : Act} {w1 : World} {g : Nat} {c : Array Value} {t : TypeId} {fn : Func} (hfn : fn.results = #[.cell 4 39, .tmp 5]) (hc : c.size = 2) (hb : w1.heap[g]? = some (.cells c t (0, 0)))
    (ha : a.tmps.getD 4 undef = .pointer (some ⟨g, 0, none⟩)) (hd : a.defers = []) (v0 v1 : Value)
    (hQ : ∀ w', Keeps (· = g) w1 w' → Q (.returned (.tuple #[.agg #[v0, v1], a.tmps.getD 5 undef])) w') :
    bodyPost Try.prog fn Q .ret a ((w1.setCell ⟨g, 0, none⟩ v0).setCell ⟨g, 1, none⟩ v1) := by
  have hb2 := setCell_block (i := 1) (setCell_block (i := 0) hb v0) v1
  have hc3 : (c.setIfInBounds 0 v0).setIfInBounds 1 v1 = #[v0, v1] := by
    obtain ⟨l⟩ := c
    match l, hc with
    | [_, _], _ => rfl
  rw [hc3] at hb2
  have hk : Keeps (· = g) w1 ((w1.setCell ⟨g, 0, none⟩ v0).setCell ⟨g, 1, none⟩ v1) := (Keeps.setCell (S := (· = g)) w1 (a := ⟨g, 0, none⟩) rfl v0).trans (Keeps.setCell (S := (· = g)) _ (a := ⟨g, 1, none⟩) rfl v1) (fun _ f _ => f)
  have hl := run_loadVar_row (P := Try.prog) _ g t 39 _ _ _ hb2 Try.underlying39 rfl (by kernel_rfl)
  have ha' : a.tmps[4]?.getD undef = .pointer (some ⟨g, 0, none⟩) := by simpa using ha
  refine bodyPost_ret (v := .tuple #[.agg #[v0, v1], a.tmps.getD 5 undef]) ?_ hd (hQ _ hk)
  rw [results_cell_tmp8 hfn]
  simp [asAddr, ha', hl, Result.andThen]

theorem tab_ret {Q : Ending → World → Prop} {a : Act} {w1 : World} {g : Nat} {t : TypeId} {fn : Func} {v0 v1 : Value} (hfn : fn.results = #[.cell 4 39, .tmp 5]) (hb : w1.heap[g]? = some (.cells #[v0, v1] t (0, 0)))
    (ha : a.tmps.getD 4 undef = .pointer (some ⟨g, 0, none⟩)) (hd : a.defers = []) (hQ : Q (.returned (.tuple #[.agg #[v0, v1], a.tmps.getD 5 undef])) w1) : bodyPost Try.prog fn Q .ret a w1 := by
  have hl := run_loadVar_row (P := Try.prog) _ g t 39 _ _ _ hb Try.underlying39 rfl (by kernel_rfl)
  have ha' : a.tmps[4]?.getD undef = .pointer (some ⟨g, 0, none⟩) := by simpa using ha
  refine bodyPost_ret (v := .tuple #[.agg #[v0, v1], a.tmps.getD 5 undef]) ?_ hd hQ
  rw [results_cell_tmp8 hfn]
  simp [asAddr, ha', hl, Result.andThen]
theorem tab_cells {w : World} {g : Nat} {t : TypeId} {x y : Int} (h : w.heap[g]? = some (.cells #[.int .i64 x, .int .i64 y] t (0, 0))) : w.cell? ⟨g, 0, none⟩ = some (.int .i64 x) ∧ w.cell? ⟨g, 1, none⟩ = some (.int .i64 y) := ⟨cell_of_block h 0, cell_of_block h 1⟩
theorem fnew_arg (p : Nat) (F : Nat → Prop) (A : Ar) (n : Int) (w : World) (h : ArF w p F A) (hn : ¬ (1 ≤ n ∧ n ≤ 4096)) :
    Calls Try.prog 11 #[.iface 26 (.pointer (some ⟨p, 0, none⟩)), .int .i64 n] w fun e w' => e = .returned (.tuple #[.agg #[.int .i64 0, .int .i64 0], .int .i64 3]) ∧ AA w w' p F A := by
  have hf := framesFit_any n
  rw [decide_eq_false hn] at hf
  have HM : Hid _ := MidT.start h
  clear h hn
  go_enter Try.func11, Try.ntmps11
  go_wp2_with (go_at_call 28; refine (hf _).mono ?_; rintro e w' ⟨rfl, rfl⟩)
  exact tab_ret rfl HM.out.res rfl rfl ⟨rfl, HM.out.fin (Keeps.refl _ _)⟩
/-- The arena behind the stores into the first k counters. -/
def layF (base : Nat) : Nat → Ar → Ar
  | 0, A => A
  | k + 1, A => ((layF base k A).did 1 ((base + 1 + 10 * k : Nat) : Int) 1 0).2
theorem did1_len (B : Ar) (x v : Int) : (B.did 1 x v 0).2.cells.length = B.cells.length := by
  unfold Ar.did
  rw [if_neg (show ¬ (1 : Int) = 0 by decide), if_pos rfl]
  split
  · rw [cells_noted, len_put]
  · rfl
theorem layF_len (base k : Nat) (A : Ar) : (layF base k A).cells.length = A.cells.length := by
  induction k with
  | zero => rfl
  | succ k ih => exact (did1_len _ _ _).trans ih
theorem did1_log (B : Ar) (x v : Int) : (B.did 1 x v 0).2.log.length ≤ B.log.length + 1 := by
  unfold Ar.did
  rw [if_neg (show ¬ (1 : Int) = 0 by decide), if_pos rfl]
  split
  · unfold Ar.noted Ar.put; split <;> simp
  · simp
theorem layF_log (base k : Nat) (A : Ar) : (layF base k A).log.length ≤ A.log.length + k := by
  induction k with
  | zero => exact Nat.le_refl _
  | succ k ih => have := did1_log (layF base k A) ((base + 1 + 10 * k : Nat) : Int) 1; show (Ar.did _ 1 _ 1 0).2.log.length ≤ _; omega
theorem joinAt_nat (b fr : Nat) (h1 : b ≤ 1048576) (h2 : fr ≤ 4096) : joinAt b fr = ((b + 1 + 10 * fr : Nat) : Int) := by
  unfold joinAt beginAt
  rw [wrap_small (x := (b : Int) + 1) (by omega) (by omega), wrap_small (x := (fr : Int) * 10) (by omega) (by omega), wrap_small (x := (b : Int) + 1 + (fr : Int) * 10) (by omega) (by omega), wrap_small (by omega) (by omega)]
  omega
set_option maxHeartbeats 2000000 in
set_option maxRecDepth 100000 in
theorem fnew_room (p : Nat) (F : Nat → Prop) (A : Ar) (n : Int) (w : World) (h : ArF w p F A) (hn : 1 ≤ n ∧ n ≤ 4096) (hlog : A.log.length < 1000000) (he : ¬ (A.did 4 0 (1 + n * 10) 0).1.err = 0) :
    Calls Try.prog 11 #[.iface 26 (.pointer (some ⟨p, 0, none⟩)), .int .i64 n] w fun e w' => e = .returned (.tuple #[.agg #[.int .i64 0, .int .i64 0], .int .i64 (A.did 4 0 (1 + n * 10) 0).1.err]) ∧ AA w w' p F (A.did 4 0 (1 + n * 10) 0).2 := by
  have hf := framesFit_any n
  have hc := fcells_any n
  unfold cellsV at hc
  rw [if_pos hn] at hc
  rw [decide_eq_true hn] at hf
  have hm1 := meth8_reserve p
  have hn1 := nil8_reserve p
  have hld := fun w' F' (h : ArF w' p F' A) => arf_more p F' A (1 + n * 10) w' h (by omega)
  generalize A.did 4 0 (1 + n * 10) 0 = D at hld he ⊢
  obtain ⟨⟨x, ok, err⟩, B⟩ := D
  simp only at hld he ⊢
  generalize 1 + n * 10 = c at hc hld
  have HM : Hid _ := MidT.start h
  clear h hn
  go_enter Try.func11, Try.ntmps11
  go_upto_region 5 with (go_at_call 28; refine (hf _).mono ?_; rintro e w' ⟨rfl, rfl⟩)
  go_cut [6, 7] (fun s6 s7 wx => s6 = .int .i64 x ∧ s7 = .int .i64 err ∧ ∃ F', MidT w wx p F F' B)
  case first =>
    have hM1 := HM.out.kept (Keeps.drew None _)
    go_region_held3 (fun _ => True) (first | trivial | go_keep) (first
      | (go_at_call 7; refine (hc _).mono ?_; rintro e w2 ⟨rfl, rfl⟩)
      | (go_at_call 20; refine (hld _ F hM1.ar).mono ?_; rintro e w3 ⟨rfl, hA3⟩; obtain ⟨F3, hM3, -, -⟩ := hM1.acc hA3))
    all_goals (go_wp2_with fail; go_meet)
    all_goals exact ⟨rfl, rfl, F3, hM3⟩
  case rest =>
    obtain ⟨rfl, rfl, F4, hM4⟩ := hcut
    have he' : (err == 0) = false := by simpa using he
    have r0 := (cell_of_block hM4.res 0).trans rfl
    have r1 := (cell_of_block hM4.res 1).trans rfl
    have s0 := free_of_block hM4.res 0
    have s1 := free_of_block hM4.res 1
    have H4 : Hid _ := hM4
    clear hM4 hc hld hm1 hn1 hf
    go_wp2_with fail
    exact tab_end rfl rfl H4.out.res rfl rfl _ _ (fun w' hk => ⟨rfl, H4.out.fin hk⟩)
set_option maxHeartbeats 2000000 in
set_option maxRecDepth 100000 in
theorem fnew_ok (p : Nat) (F : Nat → Prop) (A : Ar) (n : Nat) (w : World) (h : ArF w p F A) (hn : 1 ≤ n ∧ n ≤ 4096) (hlog : A.log.length < 1000000) (hfit : A.cells.length + (1 + 10 * n) ≤ A.size) (hsz : A.size ≤ 1048576) :
    Calls Try.prog 11 #[.iface 26 (.pointer (some ⟨p, 0, none⟩)), .int .i64 n] w fun e w' => e = .returned (.tuple #[.agg #[.int .i64 A.cells.length, .int .i64 n], .int .i64 0]) ∧ AA w w' p F (layF A.cells.length n ((A.more (1 + 10 * n)).noted ⟨0, 4, A.cells.length, ((1 + 10 * n : Nat) : Int), 0, true⟩)) := by
  have hf := framesFit_any n
  have hc := fcells_any n
  unfold cellsV at hc
  rw [if_pos (by omega)] at hc
  rw [decide_eq_true (by omega)] at hf
  have hm1 := meth8_reserve p
  have hn1 := nil8_reserve p
  have hm2 := meth8_store p
  have hn2 := nil8_store p
  have hld := fun w' F' (h : ArF w' p F' A) => arf_reserve p F' A (1 + 10 * n) w' h (by omega) hfit (by omega)
  have hlen : ((A.more (1 + 10 * n)).noted ⟨0, 4, A.cells.length, ((1 + 10 * n : Nat) : Int), 0, true⟩).cells.length = A.cells.length + (1 + 10 * n) := by rw [cells_noted]; simp [Ar.more]
  have hlg : ((A.more (1 + 10 * n)).noted ⟨0, 4, A.cells.length, ((1 + 10 * n : Nat) : Int), 0, true⟩).log.length ≤ A.log.length + 1 := by unfold Ar.noted Ar.more; split <;> simp
  have e1 : (1 : Int) + n * 10 = ((1 + 10 * n : Nat) : Int) := by omega
  rw [e1] at hc
  generalize (A.more (1 + 10 * n)).noted ⟨0, 4, A.cells.length, ((1 + 10 * n : Nat) : Int), 0, true⟩ = B at hld hlen hlg ⊢
  generalize hbase : A.cells.length = base at hld hlen hfit ⊢
  generalize ((1 + 10 * n : Nat) : Int) = c at hc hld
  have HN : Hid (base + (1 + 10 * n) ≤ 1048576 ∧ base + (1 + 10 * n) = B.cells.length ∧ B.log.length ≤ 1000001) := ⟨by omega, hlen.symm, by omega⟩
  have HM : Hid _ := MidT.start h
  clear h hbase e1 hlen hfit hlg hlog hsz
  obtain ⟨h1, h2⟩ := hn
  go_enter Try.func11, Try.ntmps11
  go_upto_region 5 with (go_at_call 28; refine (hf _).mono ?_; rintro e w' ⟨rfl, rfl⟩)
  go_cut [6, 7] (fun s6 s7 wx => s6 = .int .i64 base ∧ s7 = .int .i64 0 ∧ ∃ F', MidT w wx p F F' B)
  case first =>
    have hM1 := HM.out.kept (Keeps.drew None _)
    go_region_held3 (fun _ => True) (first | trivial | go_keep) (first
      | (go_at_call 7; refine (hc _).mono ?_; rintro e w2 ⟨rfl, rfl⟩)
      | (go_at_call 20; refine (hld _ F hM1.ar).mono ?_; rintro e w3 ⟨rfl, hA3⟩; obtain ⟨F3, hM3, -, -⟩ := hM1.acc hA3))
    all_goals (go_wp2_with fail; go_meet)
    all_goals exact ⟨rfl, rfl, F3, hM3⟩
  case rest =>
    obtain ⟨rfl, rfl, F4, hM4⟩ := hcut
    obtain ⟨wb, hwb⟩ : ∃ wb, wb = wc := ⟨_, rfl⟩
    subst hwb
    clear hc hld hm1 hn1 hf
    have H4 : Hid _ := hM4
    clear hM4
    go_wp2_with fail
    go_loopw [36] (fun i wr => ∃ k : Nat, k ≤ n ∧ i = .int .i64 k ∧ ∃ F', MidT w wr p F F' (layF base k B) ∧ wr.heap[wb.heap.size]? = some (.cells #[.int .i64 base, .int .i64 n] 39 (0, 0)) ∧ ¬ F' wb.heap.size) (fun i _ => n - (intOf i).toNat)
    case atStart => exact ⟨0, Nat.zero_le _, rfl, F4, H4.out.kept (Keeps.alloc None _ _), new_at wb _ _ rfl, fun f => by have := H4.out.ar.lt f; omega⟩
    case round =>
      obtain ⟨k, hk, rfl, F5, hM5, hb5, ho5⟩ := hrel
      have t0 := (cell_of_block hb5 0).trans rfl
      have t1 := (cell_of_block hb5 1).trans rfl
      by_cases hkn : k < n
      · have i1 : (k : Int) < (n : Int) := by omega
        have hj := joinAt_any base n k
        rw [joinAt_nat base k (by have := HN.out; omega) (by omega)] at hj
        have hst := fun w' (hA : ArF w' p F5 (layF base k B)) => arf_store p F5 _ (base + 1 + 10 * k) 1 w' hA (by rw [layF_len]; have := HN.out; omega) (by have := layF_log base k B; have := HN.out; omega)
        have hE : ((layF base k B).put (base + 1 + 10 * k) 1).noted ⟨0, 1, ((base + 1 + 10 * k : Nat) : Int), 1, 0, true⟩ = layF base (k + 1) B := by
          show _ = (Ar.did _ 1 _ 1 0).2
          rw [did_store _ _ _ (by rw [layF_len]; have := HN.out; omega)]
        rw [hE] at hst
        generalize ((base + 1 + 10 * k : Nat) : Int) = ad at hj hst
        have H5 : Hid _ := And.intro hM5 (And.intro hb5 ho5)
        clear hM5 hb5 ho5 hE
        go_upto_region 12 with fail
        go_cut [10] (fun s10 wx => s10 = .int .i64 0 ∧ ∃ F', MidT w wx p F F' (layF base (k + 1) B) ∧ wx.heap[wb.heap.size]? = some (.cells #[.int .i64 base, .int .i64 n] 39 (0, 0)) ∧ ¬ F' wb.heap.size)
        case first =>
          have hM6 := H5.out.1.kept (Keeps.drew None _)
          go_region_held3 (fun w' => w'.cell? ⟨wb.heap.size, 0, none⟩ = some (.int .i64 base) ∧ w'.cell? ⟨wb.heap.size, 1, none⟩ = some (.int .i64 n)) (first | with_reducible exact hs3 | with_reducible exact hs2 | go_keep) (first
            | (go_at_call 29; refine (hj _).mono ?_; rintro e w2 ⟨rfl, hk2⟩; have hM7 := hM6.kept hk2; have hb7 := (hk2.block _ (Array.getElem?_eq_some_iff.1 H5.out.2.1).1 (fun f => f)).trans H5.out.2.1; have hs2 := tab_cells hb7)
            | (go_at_call 85; refine (hst _ hM7.ar).mono ?_; rintro e w3 ⟨rfl, hA3⟩; obtain ⟨F8, hM8, hf8, hk8⟩ := hM7.acc hA3; have hlt7 := (Array.getElem?_eq_some_iff.1 hb7).1; have hb8 := (hk8.block _ hlt7 H5.out.2.2).trans hb7; have hs3 := tab_cells hb8))
          all_goals (go_wp2_with fail; go_meet)
          all_goals exact ⟨rfl, F8, hM8, hb8, fun f => by rcases hf8 _ f with f | f; exact H5.out.2.2 f; omega⟩
        case rest =>
          obtain ⟨rfl, F9, hM9, hb9, ho9⟩ := hcut
          have H9 : Hid _ := And.intro hM9 (And.intro hb9 ho9)
          clear hM9 hb9 ho9 hst hj
          go_wp2_with fail
          go_roundw
          case rel => exact ⟨k + 1, by omega, by go_num, F9, H9.out.1, H9.out.2.1, H9.out.2.2⟩
          case measure => simp only [intOf]; omega
      · have i1 : ¬ (k : Int) < (n : Int) := by omega
        obtain rfl : k = n := by omega
        have r0 := (cell_of_block hM5.res 0).trans rfl
        have r1 := (cell_of_block hM5.res 1).trans rfl
        have s0 := free_of_block hM5.res 0
        have s1 := free_of_block hM5.res 1
        have H5 : Hid _ := hM5
        clear hM5 hb5 ho5
        go_wp2_with fail
        exact tab_end rfl rfl H5.out.res rfl rfl _ _ (fun w' hk => ⟨rfl, H5.out.fin hk⟩)
end Go.Proofs.Ytaipeclmfgdegaa
