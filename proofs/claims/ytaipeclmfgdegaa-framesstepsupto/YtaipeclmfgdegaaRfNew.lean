import Derived.Test.YtaipeclmfgdegaaRfTell
import Derived.Test.YtaipeclmfgdegaaFrNew
/-! New of the program and of the document, whatever the number of frames. -/
namespace Go.Proofs.Ytaipeclmfgdegaa
open Go.RowKit Go.HeapKit Go.IntWalk

structure TAns where
  base : Int
  frames : Int
  err : Int
  ar : Ar
def newT (A : Ar) (n : Int) : TAns :=
  if 1 ≤ n ∧ n ≤ 4096 then
    if A.cells.length + (1 + 10 * n.toNat) ≤ A.size then ⟨A.cells.length, n, 0, layF A.cells.length n.toNat ((A.more (1 + 10 * n.toNat)).noted ⟨0, 4, A.cells.length, ((1 + 10 * n.toNat : Nat) : Int), 0, true⟩)⟩
    else ⟨0, 0, 22, A⟩
  else ⟨0, 0, 3, A⟩
theorem layF_rest8 (b : Nat) : ∀ (k : Nat) (A : Ar), (layF b k A).size = A.size
  | 0, _ => rfl
  | k + 1, A => by
    have ih := layF_rest8 b k A
    show ((layF b k A).did 1 ((b + 1 + 10 * k : Nat) : Int) 1 0).2.size = A.size
    rw [← ih]
    unfold Ar.did
    rw [if_neg (by decide), if_pos rfl]
    split
    · unfold Ar.noted; split <;> rfl
    · rfl
theorem newT_log (A : Ar) (n : Int) : (newT A n).ar.log.length ≤ A.log.length + 5000 := by
  unfold newT
  split
  · split
    · rename_i h1 h2
      have h3 := layF_log A.cells.length n.toNat ((A.more (1 + 10 * n.toNat)).noted ⟨0, 4, A.cells.length, ((1 + 10 * n.toNat : Nat) : Int), 0, true⟩)
      have h4 : ((A.more (1 + 10 * n.toNat)).noted ⟨0, 4, A.cells.length, ((1 + 10 * n.toNat : Nat) : Int), 0, true⟩).log.length ≤ A.log.length + 1 := by
        unfold Ar.noted
        split
        · simp [Ar.more]
        · simp [Ar.more]
      have h5 : n.toNat ≤ 4096 := by omega
      show (layF A.cells.length n.toNat ((A.more (1 + 10 * n.toNat)).noted ⟨0, 4, A.cells.length, ((1 + 10 * n.toNat : Nat) : Int), 0, true⟩)).log.length ≤ A.log.length + 5000
      omega
    · show A.log.length ≤ A.log.length + 5000; omega
  · show A.log.length ≤ A.log.length + 5000; omega
theorem newT_size (A : Ar) (n : Int) : (newT A n).ar.size = A.size := by
  unfold newT
  split
  · split
    · show (layF A.cells.length n.toNat ((A.more (1 + 10 * n.toNat)).noted ⟨0, 4, A.cells.length, ((1 + 10 * n.toNat : Nat) : Int), 0, true⟩)).size = A.size
      rw [(layF_rest8 _ _ _)]
      unfold Ar.noted
      split <;> rfl
    · rfl
  · rfl
theorem did_full (A : Ar) (n : Int) (hn : 1 ≤ n ∧ n ≤ 4096) (h : ¬ A.cells.length + (1 + 10 * n.toNat) ≤ A.size) : A.did 4 0 (1 + n * 10) 0 = (bad 22, A) := by
  unfold Ar.did
  rw [if_neg (by decide), if_neg (by decide), if_neg (by decide), if_neg (by decide), if_neg (by omega), if_pos (by omega)]
theorem fnew_any (p : Nat) (F : Nat → Prop) (A : Ar) (n : Int) (w : World) (h : ArF w p F A) (hlog : A.log.length < 1000000) (hsz : A.size ≤ 1048576) :
    Calls Try.prog 11 #[.iface 26 (.pointer (some ⟨p, 0, none⟩)), .int .i64 n] w fun e w' => e = .returned (.tuple #[.agg #[.int .i64 (newT A n).base, .int .i64 (newT A n).frames], .int .i64 (newT A n).err]) ∧ AA w w' p F (newT A n).ar := by
  unfold newT
  by_cases hn : 1 ≤ n ∧ n ≤ 4096
  · rw [if_pos hn]
    by_cases h2 : A.cells.length + (1 + 10 * n.toNat) ≤ A.size
    · rw [if_pos h2]
      obtain ⟨m, rfl⟩ : ∃ m : Nat, n = m := ⟨n.toNat, by omega⟩
      exact fnew_ok p F A m w h (by omega) hlog h2 hsz
    · rw [if_neg h2]
      have e := did_full A n hn h2
      have h3 := fnew_room p F A n w h hn hlog (by rw [e]; show ¬ (22 : Int) = 0; decide)
      rw [e] at h3
      exact h3
  · rw [if_neg hn]
    exact fnew_arg p F A n w h hn
/-- Within New: the block for the result, the arena. -/
structure MidR (w wx : World) (p : Nat) (F F1 : Nat → Prop) (B : Ar) : Prop where
  res : wx.heap[w.heap.size]? = some (.cells #[.int .i64 0, .int .i64 0] 36 (0, 0))
  ar : RfF wx p F1 B
  kp : Keeps F w wx
  fo : ∀ k, F1 k → F k ∨ w.heap.size + 1 ≤ k
  lo : ∀ k, F k → k < w.heap.size
section
variable {w wx wy : World} {p : Nat} {F F1 : Nat → Prop} {A B : Ar}
theorem MidR.start (h : RfF w p F A) : MidR w (w.alloc (.cells #[.int .i64 0, .int .i64 0] 36)) p F F A :=
  ⟨new_at _ _ _ rfl, h.kept (Keeps.alloc None w _) (fun _ _ f => f), (Keeps.refl F w).andAlloc _, fun _ f => .inl f, fun _ f => h.lt f⟩
theorem MidR.lt (h : MidR w wx p F F1 B) : w.heap.size < wx.heap.size := (Array.getElem?_eq_some_iff.1 h.res).1
theorem MidR.off (h : MidR w wx p F F1 B) : ¬ F1 w.heap.size := fun f => by rcases h.fo _ f with f | f; have := h.lo _ f; omega; omega
theorem MidR.kept (h : MidR w wx p F F1 B) (hk : Keeps None wx wy) : MidR w wy p F F1 B :=
  ⟨(hk.block _ h.lt (fun f => f)).trans h.res, h.ar.kept hk (fun _ _ f => f), h.kp.trans hk (fun _ f _ => f.elim), h.fo, h.lo⟩
theorem MidR.acc (h : MidR w wx p F F1 A) (h2 : RR wx wy p F1 B) : ∃ F2, MidR w wy p F F2 B ∧ (∀ k, F2 k → F1 k ∨ wx.heap.size ≤ k) ∧ Keeps F1 wx wy := by
  obtain ⟨F2, g, hk, hf⟩ := h2
  have := h.lt
  refine ⟨F2, ⟨(hk.block _ h.lt h.off).trans h.res, g, h.kp.trans hk (fun i f hi => ?_), fun k f => ?_, h.lo⟩, hf, hk⟩
  · rcases h.fo i f with f | f
    · exact f
    · omega
  · rcases hf k f with f | f
    · exact h.fo k f
    · exact .inr (by omega)
theorem MidR.fin (h : MidR w wx p F F1 B) (hk : Keeps (· = w.heap.size) wx wy) : RR w wy p F B :=
  ⟨F1, h.ar.kept hk (fun k f e => h.off (e ▸ f)), h.kp.trans hk (fun i e hi => by omega), fun k f => by
    rcases h.fo k f with f | f
    · exact .inl f
    · exact .inr (by omega)⟩
end
theorem rtab_end {Q : Ending → World → Prop} {a : Act} {w1 : World} {g : Nat} {c : Array Value} {t : TypeId} {fn : Func} (hfn : fn.results = #[.cell 4 36, .tmp 5]) (hc : c.size = 2) (hb : w1.heap[g]? = some (.cells c t (0, 0)))
    (ha : a.tmps.getD 4 undef = .pointer (some ⟨g, 0, none⟩)) (hd : a.defers = []) (v0 v1 : Value)
    (hQ : ∀ w', Keeps (· = g) w1 w' → Q (.returned (.tuple #[.agg #[v0, v1], a.tmps.getD 5 undef])) w') :
    bodyPost Try.prog fn Q .ret a ((w1.setCell ⟨g, 0, none⟩ v0).setCell ⟨g, 1, none⟩ v1) := by
  have hb2 := setCell_block (i := 1) (setCell_block (i := 0) hb v0) v1
  have hc3 : (c.setIfInBounds 0 v0).setIfInBounds 1 v1 = #[v0, v1] := by
    obtain ⟨l⟩ := c
    match l, hc with
    | [_, _], _ => rfl
  rw [hc3] at hb2
  have hk : Keeps (· = g) w1 ((w1.setCell ⟨g, 0, none⟩ v0).setCell ⟨g, 1, none⟩ v1) := (Keeps.setCell (S := (· = g)) w1 (a := ⟨g, 0, none⟩) rfl v0).trans (Keeps.setCell (S := (· = g)) _ (a := ⟨g, 1, none⟩) rfl v1) (fun _ f _ => f)
  have hl := run_loadVar_row (P := Try.prog) _ g t 36 _ _ _ hb2 Try.underlying36 rfl (by kernel_rfl)
  have ha' : a.tmps[4]?.getD undef = .pointer (some ⟨g, 0, none⟩) := by simpa using ha
  refine bodyPost_ret (v := .tuple #[.agg #[v0, v1], a.tmps.getD 5 undef]) ?_ hd (hQ _ hk)
  rw [results_cell_tmp8 hfn]
  simp [asAddr, ha', hl, Result.andThen]

theorem rtab_ret {Q : Ending → World → Prop} {a : Act} {w1 : World} {g : Nat} {t : TypeId} {fn : Func} {v0 v1 : Value} (hfn : fn.results = #[.cell 4 36, .tmp 5]) (hb : w1.heap[g]? = some (.cells #[v0, v1] t (0, 0)))
    (ha : a.tmps.getD 4 undef = .pointer (some ⟨g, 0, none⟩)) (hd : a.defers = []) (hQ : Q (.returned (.tuple #[.agg #[v0, v1], a.tmps.getD 5 undef])) w1) : bodyPost Try.prog fn Q .ret a w1 := by
  have hl := run_loadVar_row (P := Try.prog) _ g t 36 _ _ _ hb Try.underlying36 rfl (by kernel_rfl)
  have ha' : a.tmps[4]?.getD undef = .pointer (some ⟨g, 0, none⟩) := by simpa using ha
  refine bodyPost_ret (v := .tuple #[.agg #[v0, v1], a.tmps.getD 5 undef]) ?_ hd hQ
  rw [results_cell_tmp8 hfn]
  simp [asAddr, ha', hl, Result.andThen]
theorem rf_do (p : Nat) (F : Nat → Prop) (A : Ar) (u k x a b : Int) (w : World) (h : RfF w p F A) (hlog : A.log.length < 1000000000000) (hk : 0 ≤ k ∧ k ≤ 4) :
    Calls Try.prog 19 #[.pointer (some ⟨p, 0, none⟩), .agg #[.int .i64 u, .int .i64 k, .int .i64 x, .int .i64 a, .int .i64 b]] w fun e w' => e = .returned (A.did k x a b).1.value ∧ RR w w' p F (A.did k x a b).2 := by
  obtain ⟨vc, vl, h, rfl⟩ := h
  refine (do_any p vc vl A u k x a b w h hlog hk).mono ?_
  rintro e w' ⟨rfl, hA⟩
  exact ⟨rfl, RR.of hA⟩
theorem rcells8_any (f : Int) (w : World) : Calls Try.prog 8 #[.int .i64 f] w fun e w' => e = .returned (.int .i64 (cellsV f)) ∧ w' = w := by
  unfold cellsV
  by_cases h1 : f < 1
  · rw [if_neg (by omega)]
    go_enter Try.func8, Try.ntmps8
    go_wp2
    go_ret
    exact ⟨rfl, rfl⟩
  · by_cases h2 : 4096 < f
    · rw [if_neg (by omega)]
      go_enter Try.func8, Try.ntmps8
      go_wp2
      go_ret
      exact ⟨rfl, rfl⟩
    · rw [if_pos (by omega)]
      have h3 : f ≤ 4096 := by omega
      have h4 : 1 ≤ f := by omega
      go_enter Try.func8, Try.ntmps8
      go_wp2
      go_ret
      exact ⟨rfl, rfl⟩
theorem did_fits8 (A : Ar) (n : Nat) (hn : 1 ≤ n ∧ n ≤ 4096) (h : A.cells.length + (1 + 10 * n) ≤ A.size) : A.did 4 0 (1 + (n : Int) * 10) 0 = (⟨A.cells.length, true, 0⟩, (A.more (1 + 10 * n)).noted ⟨0, 4, A.cells.length, ((1 + 10 * n : Nat) : Int), 0, true⟩) := by
  unfold Ar.did
  rw [if_neg (by decide), if_neg (by decide), if_neg (by decide), if_neg (by decide), if_neg (by omega), if_neg (by omega)]
  rw [show (1 + (n : Int) * 10).toNat = 1 + 10 * n by omega, show (1 + (n : Int) * 10) = ((1 + 10 * n : Nat) : Int) by omega]
set_option maxHeartbeats 4000000 in
set_option maxRecDepth 100000 in
theorem rfnew_bad (p : Nat) (F : Nat → Prop) (A : Ar) (n : Int) (w : World) (h : RfF w p F A) (hn : ¬ (1 ≤ n ∧ n ≤ 4096)) :
    Calls Try.prog 10 #[.pointer (some ⟨p, 0, none⟩), .int .i64 n] w fun e w' => e = .returned (.tuple #[.agg #[.int .i64 0, .int .i64 0], .int .i64 3]) ∧ RR w w' p F A := by
  have hc := rcells8_any n
  unfold cellsV at hc
  rw [if_neg hn] at hc
  have HM : Hid _ := MidR.start h
  clear h hn
  go_enter Try.func10, Try.ntmps10
  go_wp2_with (go_at_call 8; refine (hc _).mono ?_; rintro e w' ⟨rfl, rfl⟩)
  exact rtab_ret rfl HM.out.res rfl rfl ⟨rfl, HM.out.fin (Keeps.refl _ _)⟩
set_option maxHeartbeats 4000000 in
set_option maxRecDepth 100000 in
theorem rfnew_room (p : Nat) (F : Nat → Prop) (A : Ar) (n : Int) (w : World) (h : RfF w p F A) (hn : 1 ≤ n ∧ n ≤ 4096) (hlog : A.log.length < 1000000) (h2 : ¬ A.cells.length + (1 + 10 * n.toNat) ≤ A.size) :
    Calls Try.prog 10 #[.pointer (some ⟨p, 0, none⟩), .int .i64 n] w fun e w' => e = .returned (.tuple #[.agg #[.int .i64 0, .int .i64 0], .int .i64 22]) ∧ RR w w' p F A := by
  have hc := rcells8_any n
  unfold cellsV at hc
  rw [if_pos hn] at hc
  have HM := MidR.start h
  have hd := rf_do p F A 0 4 0 (1 + n * 10) 0 _ HM.ar (by omega) (by omega)
  rw [did_full A n hn h2] at hd
  simp only [bad, Eff.value] at hd
  have hne : ¬ (1 + n * 10) = 0 := by omega
  obtain ⟨N, hN⟩ : ∃ N, N = 1 + n * 10 := ⟨_, rfl⟩
  rw [← hN] at hc hd hne
  have b0 : (N == 0) = false := by simpa using hne
  have HH : Hid _ := HM
  clear h hn h2 HM hN hne
  go_enter Try.func10, Try.ntmps10
  go_wp2_with fail
  refine (hc _).mono ?_
  rintro e w' ⟨rfl, hw⟩
  have hw2 := hw.symm
  subst hw2
  clear hw hc
  go_upto_region 4 with fail
  go_cut [7] (fun s7 wx => ∃ E, s7 = .pointer (some ⟨E, 0, none⟩) ∧ wx.cell? ⟨E, 2, none⟩ = some (.int .i64 22) ∧ E ≠ w.heap.size ∧ ∃ F2, MidR w wx p F F2 A)
  case first =>
    go_wp2_with fail
    refine hd.mono ?_
    rintro e w1 ⟨rfl, hA1⟩
    have HA1 : Hid _ := hA1
    clear hd hA1
    go_wp2_with fail
    go_meet
    obtain ⟨F2, hM2, -, -⟩ := HH.out.acc HA1.out
    exact ⟨_, rfl, cell_of_block (new_at w1 _ _ rfl) 2, by have := hM2.lt; omega, F2, hM2.kept (Keeps.alloc None w1 _)⟩
  case rest =>
    obtain ⟨E, rfl, c2, hE, F2, hM3⟩ := hcut
    have HM3 : Hid _ := hM3
    have r0 := (cell_of_block hM3.res 0).trans rfl
    have r1 := (cell_of_block hM3.res 1).trans rfl
    have q0 := free_of_block hM3.res 0
    have q1 := free_of_block hM3.res 1
    have ne1 : ¬ w.heap.size = E := fun e => hE e.symm
    clear hM3 hd
    go_upto_region 6 with fail
    go_cut [5] (fun s5 wx => s5 = .int .i64 22 ∧ ∃ wz, wx = (wz.setCell ⟨w.heap.size, 0, none⟩ (.int .i64 0)).setCell ⟨w.heap.size, 1, none⟩ (.int .i64 0) ∧ Keeps None wc wz)
    case first =>
      go_region_held3 (fun w' => w'.cell? ⟨E, 2, none⟩ = some (.int .i64 22)) (go_keep) (fail)
      all_goals (go_wp2_with fail; go_meet)
      all_goals exact ⟨rfl, _, rfl, by first | exact Keeps.drew None _ | exact Keeps.drewN None _ _ | exact Keeps.refl _ _⟩
    case rest =>
      obtain ⟨rfl, wz, rfl, hkz⟩ := hcut
      have hM4 := HM3.out.kept hkz
      go_wp2_with fail
      exact rtab_end rfl rfl hM4.res rfl rfl _ _ (fun w' hk => ⟨rfl, hM4.fin hk⟩)
set_option maxHeartbeats 4000000 in
set_option maxRecDepth 100000 in
theorem rfnew_ok (p : Nat) (F : Nat → Prop) (A : Ar) (n : Nat) (w : World) (h : RfF w p F A) (hn : 1 ≤ n ∧ n ≤ 4096) (hlog : A.log.length < 1000000) (h2 : A.cells.length + (1 + 10 * n) ≤ A.size) (hsz : A.size ≤ 1048576) :
    Calls Try.prog 10 #[.pointer (some ⟨p, 0, none⟩), .int .i64 n] w fun e w' => e = .returned (.tuple #[.agg #[.int .i64 A.cells.length, .int .i64 n], .int .i64 0]) ∧ RR w w' p F (layF A.cells.length n ((A.more (1 + 10 * n)).noted ⟨0, 4, A.cells.length, ((1 + 10 * n : Nat) : Int), 0, true⟩)) := by
  have hc := rcells8_any n
  unfold cellsV at hc
  rw [if_pos (by omega)] at hc
  have HM := MidR.start h
  have hd := rf_do p F A 0 4 0 (1 + (n : Int) * 10) 0 _ HM.ar (by omega) (by omega)
  rw [did_fits8 A n hn h2] at hd
  simp only [Eff.value] at hd
  have hl1 : ((A.more (1 + 10 * n)).noted ⟨0, 4, A.cells.length, ((1 + 10 * n : Nat) : Int), 0, true⟩).log.length ≤ A.log.length + 1 := by
    unfold Ar.noted
    split <;> simp [Ar.more]
  generalize (A.more (1 + 10 * n)).noted ⟨0, 4, A.cells.length, ((1 + 10 * n : Nat) : Int), 0, true⟩ = A1 at hd hl1 ⊢
  have hne : ¬ (1 + (n : Int) * 10) = 0 := by omega
  obtain ⟨N, hN⟩ : ∃ N, N = 1 + (n : Int) * 10 := ⟨_, rfl⟩
  rw [← hN] at hc hd hne
  have b0 : (N == 0) = false := by simpa using hne
  have hB : A.cells.length ≤ 1048576 := by omega
  generalize A.cells.length = b at hd hB ⊢
  have HH : Hid _ := HM
  have j1 : (b : Int) ≤ 1048576 := by omega
  have j2 : (n : Int) ≤ 4096 := by omega
  clear h h2 HM hN hne
  go_enter Try.func10, Try.ntmps10
  go_wp2_with fail
  refine (hc _).mono ?_
  rintro e w' ⟨rfl, hw⟩
  have hw2 := hw.symm
  subst hw2
  clear hw hc
  go_upto_region 4 with fail
  go_cut [7] (fun s7 wx => ∃ E, s7 = .pointer (some ⟨E, 0, none⟩) ∧ wx.cell? ⟨E, 2, none⟩ = some (.int .i64 0) ∧ wx.cell? ⟨E, 0, none⟩ = some (.int .i64 b) ∧ ∃ F2, MidR w wx p F F2 A1)
  case first =>
    go_wp2_with fail
    refine hd.mono ?_
    rintro e w1 ⟨rfl, hA1⟩
    have HA1 : Hid _ := hA1
    clear hd hA1
    go_wp2_with fail
    go_meet
    obtain ⟨F2, hM2, -, -⟩ := HH.out.acc HA1.out
    exact ⟨_, rfl, cell_of_block (new_at w1 _ _ rfl) 2, cell_of_block (new_at w1 _ _ rfl) 0, F2, hM2.kept (Keeps.alloc None w1 _)⟩
  case rest =>
    obtain ⟨E, rfl, c2, c0, F2, hM3⟩ := hcut
    have HM3 : Hid _ := hM3
    clear hM3 hd
    go_wp2_with fail
    go_loopw [9] (fun s9 wr => ∃ i : Nat, i ≤ n ∧ s9 = .int .i64 i ∧ ∃ F4, MidR w wr p F F4 (layF b i A1)) (fun s9 _ => n - (intOf s9).toNat)
    case atStart => exact ⟨0, Nat.zero_le _, rfl, F2, HM3.out⟩
    case round =>
      obtain ⟨i, hi, rfl, F4, hM4⟩ := hrel
      clear c0 c2 HM3
      by_cases hin : i < n
      · have i1 : (i : Int) < (n : Int) := by omega
        have hlg := layF_log b i A1
        have hd4 := rf_do p F4 (layF b i A1) 0 1 ((b : Int) + 1 + (i : Int) * 10) 1 0 wr hM4.ar (by omega) (by omega)
        have e4 : (b : Int) + 1 + (i : Int) * 10 = ((b + 1 + 10 * i : Nat) : Int) := by omega
        have hval : ((layF b i A1).did 1 ((b : Int) + 1 + (i : Int) * 10) 1 0).1.value = .agg #[.int .i64 ((layF b i A1).did 1 ((b : Int) + 1 + (i : Int) * 10) 1 0).1.v, .bool ((layF b i A1).did 1 ((b : Int) + 1 + (i : Int) * 10) 1 0).1.ok, .int .i64 ((layF b i A1).did 1 ((b : Int) + 1 + (i : Int) * 10) 1 0).1.err] := rfl
        rw [hval] at hd4
        generalize ((layF b i A1).did 1 ((b : Int) + 1 + (i : Int) * 10) 1 0).1.v = dv at hd4
        generalize ((layF b i A1).did 1 ((b : Int) + 1 + (i : Int) * 10) 1 0).1.ok = dk at hd4
        generalize ((layF b i A1).did 1 ((b : Int) + 1 + (i : Int) * 10) 1 0).1.err = de at hd4
        have HM4 : Hid _ := hM4
        have HE : Hid _ := e4
        clear hM4 hval e4
        go_wp2_with fail
        refine hd4.mono ?_
        rintro e w5 ⟨rfl, hA5⟩
        have HA5 : Hid _ := hA5
        clear hd4 hA5
        go_wp2_with fail
        go_roundw
        case rel =>
          obtain ⟨F5, hM5, -, -⟩ := HM4.out.acc HA5.out
          refine ⟨i + 1, by omega, by go_num, F5, ?_⟩
          rw [HE.out] at hM5
          exact hM5
        case measure => simp only [intOf]; omega
      · have i1 : ¬ (i : Int) < (n : Int) := by omega
        obtain rfl : i = n := by omega
        have r0 := (cell_of_block hM4.res 0).trans rfl
        have r1 := (cell_of_block hM4.res 1).trans rfl
        have q0 := free_of_block hM4.res 0
        have q1 := free_of_block hM4.res 1
        have HM4 : Hid _ := hM4
        clear hM4
        go_wp2
        exact rtab_end rfl rfl HM4.out.res rfl rfl _ _ (fun w' hk => ⟨rfl, HM4.out.fin hk⟩)
theorem rfnew_any (p : Nat) (F : Nat → Prop) (A : Ar) (n : Int) (w : World) (h : RfF w p F A) (hlog : A.log.length < 1000000) (hsz : A.size ≤ 1048576) :
    Calls Try.prog 10 #[.pointer (some ⟨p, 0, none⟩), .int .i64 n] w fun e w' => e = .returned (.tuple #[.agg #[.int .i64 (newT A n).base, .int .i64 (newT A n).frames], .int .i64 (newT A n).err]) ∧ RR w w' p F (newT A n).ar := by
  unfold newT
  by_cases hn : 1 ≤ n ∧ n ≤ 4096
  · rw [if_pos hn]
    by_cases h2 : A.cells.length + (1 + 10 * n.toNat) ≤ A.size
    · rw [if_pos h2]
      obtain ⟨m, rfl⟩ : ∃ m : Nat, n = m := ⟨n.toNat, by omega⟩
      exact rfnew_ok p F A m w h (by omega) hlog h2 hsz
    · rw [if_neg h2]
      exact rfnew_room p F A n w h hn hlog h2
  · rw [if_neg hn]
    exact rfnew_bad p F A n w h hn
end Go.Proofs.Ytaipeclmfgdegaa
