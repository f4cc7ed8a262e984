import Derived.Test.YtlligclkoecknaaFrPick2
import Derived.Test.YtlligclkoecknaaFrMarks
import Derived.Test.YtlligclkoecknaaFrIds
/-! Play. -/
namespace Go.Proofs.Ytlligclkoecknaa
open Go.RowKit Go.HeapKit Go.IntWalk Go.PlainOps

/-- What Play tells, in memory. -/
def RunV (w : World) (val : Value) (done : Bool) (steps : Nat) (holders : List Int) (reads : List (List Int)) (marks : List Int) (log : List Acc) : Prop :=
  ∃ vh vd rs gm gl, val = .agg #[.bool done, .int .i64 steps, vh, vd, .slice (some ⟨gm, 0, none⟩) marks.length marks.length, .slice (some ⟨gl, 0, none⟩) log.length log.length] ∧
    w.ownsRow 0 3 1 vh holders.length (holders.map (Value.int .i64)) ∧ w.ownsRow 0 48 1 vd reads.length rs ∧ rs.length = reads.length ∧
    (∀ i, i < reads.length → w.ownsRow 0 2 1 (rs.getD i undef) (reads.getD i []).length ((reads.getD i []).map (Value.int .i64))) ∧
    w.heap[gm]? = some (.cells (marks.map (Value.int .i64)).toArray 2 (0, 0)) ∧ w.heap[gl]? = some (.cells (logVals log).toArray 56 (0, 0))
def PlayAns (l : List Nat) (m : Nat) (w : World) (e : Ending) (w' : World) : Prop :=
  ∃ val n done steps holders reads marks log, e = .returned (.tuple #[val, .int .i64 0]) ∧ RunV w' val done steps holders reads marks log ∧ Told l n done holders reads marks log ∧ steps = log.length ∧ (done = true ∨ steps = m) ∧ steps ≤ m ∧ Keeps None w w'
/-- The play at its beginning. -/
def Pl.start (l : List Nat) : Pl := ⟨{ tabA (frs l) with on := true }, (frs l : Nat), l.map (fun n : Nat => (n : Int)), [], 0, 0, 0, 0, false, [], []⟩
theorem start_inv (l : List Nat) (hl : Rounds l) : Inv l (total l) ((Pl.start l).join (allocO (frs l)) OpF.zero) := by
  have hF : 0 < frs l := by unfold frs; omega
  have hv : ∀ i, ({ tabA (frs l) with on := true } : Ar).val i = if ∃ f, f < frs l ∧ i = 1 + 10 * f then 1 else 0 := fun i => tabA_val (frs l) i
  refine ⟨⟨hl, rfl, rfl, ?_, Nat.le_refl 1, by show 0 + 1 ≤ baseR l 0 + 0; simp [baseR]⟩, .st true ⟨rfl, rfl, rfl, rfl, rfl, rfl, ⟨fun _ => 0, fun _ => 0, ⟨tabA_len _, hF, rfl, ?_, ?_, fun f hf => ?_, fun j hj => ?_⟩, fun _ _ => rfl⟩, ?_, rfl⟩⟩
  · show List.length (tabA (frs l)).log + _ = _
    rw [(tabA_rest _).2.1]
    simp [total]
  · refine (hv 0).trans (if_neg ?_)
    rintro ⟨f, h1, h2⟩
    omega
  · exact (hv 1).trans (if_pos ⟨0, hF, by omega⟩)
  · refine (hv _).trans (if_neg ?_)
    rintro ⟨f, h1, h2⟩
    omega
  · refine (hv _).trans (if_neg ?_)
    rintro ⟨f, h1, h2⟩
    omega
  · intro t
    show scan _ _ (tabA (frs l)).log = _
    rw [(tabA_rest _).2.1]
    rfl
theorem mem_len {l : List Nat} {n : Nat} {S : Pl} (h : Inv l n S) : S.A.cells.length = 1 + 10 * frs l := by
  cases h.m with
  | st z h => obtain ⟨_, _, hm, -⟩ := h.mem; exact hm.len
  | wk r k fk ks u fin h => obtain ⟨_, _, hm, -⟩ := h.mem; exact hm.len
  | qu r ks h => obtain ⟨_, _, hm, -⟩ := h.mem; exact hm.len
  | bk r a h => obtain ⟨_, _, hm, -⟩ := h.mem; exact hm.len
  | ft r j a h => obtain ⟨_, _, hm, -⟩ := h.b.mem; exact hm.len
  | dn h => obtain ⟨_, _, hm, -⟩ := h.mem; exact hm.len
theorem small_of {l : List Nat} {n : Nat} {S : Pl} (h : Inv l (n + 1) S) : Small S := by
  have ht := h.told
  have hl := h.b.ok.len
  refine ⟨h.some.2.1, by have := ht.rl; have := ht.rh; omega, by have := ht.rl; omega, fun r => ?_⟩
  by_cases hr : r < S.reads.length
  · obtain ⟨m, h1, h2, -⟩ := ht.row r hr
    rw [h2, vals100_length]
    have := h.b.ok.few r
    omega
  · rw [List.getD_eq_getElem?_getD, List.getElem?_eq_none (by omega)]
    simp
theorem run_end {Q : Ending → World → Prop} {a : Act} {w1 : World} {g : Nat} {c : Array Value} {t : TypeId} {fn : Func} (hfn : fn.results = #[.cell 4 51, .tmp 5]) (hc : c.size = 6) (hb : w1.heap[g]? = some (.cells c t (0, 0)))
    (ha : a.tmps.getD 4 undef = .pointer (some ⟨g, 0, none⟩)) (hd : a.defers = []) (v0 v1 v2 v3 v4 v5 : Value)
    (hQ : ∀ w', Keeps (· = g) w1 w' → Q (.returned (.tuple #[.agg #[v0, v1, v2, v3, v4, v5], a.tmps.getD 5 undef])) w') :
    bodyPost Try.prog fn Q .ret a ((((((w1.setCell ⟨g, 0, none⟩ v0).setCell ⟨g, 1, none⟩ v1).setCell ⟨g, 2, none⟩ v2).setCell ⟨g, 3, none⟩ v3).setCell ⟨g, 4, none⟩ v4).setCell ⟨g, 5, none⟩ v5) := by
  obtain ⟨c', h1, h2⟩ := setsFrom_block g t [v0, v1, v2, v3, v4, v5] 0 w1 c hb (by simp [hc])
  have h3 : c' = #[v0, v1, v2, v3, v4, v5] := by
    apply Array.toList_inj.1
    rw [h2, List.drop_of_length_le (by simp [hc])]
    rfl
  rw [h3] at h1
  have hk := setsFrom_keeps g [v0, v1, v2, v3, v4, v5] 0 w1
  have hl := run_loadVar_row (P := Try.prog) _ g t 51 _ _ _ h1 Try.underlying51 rfl (by kernel_rfl)
  have ha' : a.tmps[4]?.getD undef = .pointer (some ⟨g, 0, none⟩) := by simpa using ha
  refine bodyPost_ret (v := .tuple #[.agg #[v0, v1, v2, v3, v4, v5], a.tmps.getD 5 undef]) ?_ hd (hQ _ hk)
  rw [results_cell_tmp8 hfn]
  show _ = _
  simp only [setsFrom] at hl
  simp [asAddr, ha', hl, Result.andThen]
theorem zero6 {w : World} {g : Nat} {t : TypeId} (h : w.heap[g]? = some (.cells #[.bool false, .int .i64 0, .slice none 0 0, .slice none 0 0, .slice none 0 0, .slice none 0 0] t (0, 0))) : w.cell? ⟨g, 0, none⟩ = some (.bool false) ∧ w.cell? ⟨g, 1, none⟩ = some (.int .i64 0) ∧ w.cell? ⟨g, 2, none⟩ = some (.slice none 0 0) ∧ w.cell? ⟨g, 3, none⟩ = some (.slice none 0 0) ∧ w.cell? ⟨g, 4, none⟩ = some (.slice none 0 0) ∧ w.cell? ⟨g, 5, none⟩ = some (.slice none 0 0) :=
  ⟨cell_of_block h 0, cell_of_block h 1, cell_of_block h 2, cell_of_block h 3, cell_of_block h 4, cell_of_block h 5⟩
theorem free6 {w : World} {g : Nat} {t : TypeId} {c : Array Value} (h : w.heap[g]? = some (.cells c t (0, 0))) : w.frozen? ⟨g, 0, none⟩ = false ∧ w.frozen? ⟨g, 1, none⟩ = false ∧ w.frozen? ⟨g, 2, none⟩ = false ∧ w.frozen? ⟨g, 3, none⟩ = false ∧ w.frozen? ⟨g, 4, none⟩ = false ∧ w.frozen? ⟨g, 5, none⟩ = false :=
  ⟨free_of_block h 0, free_of_block h 1, free_of_block h 2, free_of_block h 3, free_of_block h 4, free_of_block h 5⟩
theorem arf_log (p : Nat) (F : Nat → Prop) (A : Ar) (w : World) (h : ArF w p F A) (hlog : A.log.length ≤ 1000000000000) :
    Calls Try.prog 40 #[.pointer (some ⟨p, 0, none⟩)] w fun e w' => ∃ g, e = .returned (.slice (some ⟨g, 0, none⟩) A.log.length A.log.length) ∧ w.heap.size ≤ g ∧ w'.heap[g]? = some (.cells (logVals A.log).toArray 56 (0, 0)) ∧ Keeps None w w' := by
  obtain ⟨vc, vl, h, -⟩ := h
  refine (log_any p vc vl A w h hlog).mono ?_
  rintro e w' ⟨rfl, hb, hk⟩
  exact ⟨_, rfl, Nat.le_refl _, hb, hk⟩
theorem ans_of {l : List Nat} {m n k N : Nat} {w wQ W w' : World} {P p : Nat} {F : Nat → Prop} {ao : Option Addr} {c : Nat} {va vh vd : Value} {rs : List Value} {S : Pl} {gm gl : Nat}
    (hQ : Keeps None w wQ) (hs : wQ.heap.size = w.heap.size + 1) (h : IsPlay wQ W P p F ao c va vh vd rs S) (hI : Inv l n S) (hst : S.A.log.length = k) (hkm : k ≤ m) (hend : S.done = true ∨ k = m) (hN : frs l = N)
    (hbm : W.heap[gm]? = some (.cells ((marksOf S.A N).map (Value.int .i64)).toArray 2 (0, 0))) (hgm : wQ.heap.size ≤ gm) (hbl : W.heap[gl]? = some (.cells (logVals S.A.log).toArray 56 (0, 0))) (hgl : wQ.heap.size ≤ gl) (hk : Keeps (· = w.heap.size) W w') :
    PlayAns l m w (.returned (.tuple #[.agg #[.bool S.done, .int .i64 k, vh, vd, .slice (some ⟨gm, 0, none⟩) N N, .slice (some ⟨gl, 0, none⟩) k k], .int .i64 0])) w' := by
  have ht := hI.told
  rw [hN] at ht
  have hoff : ∀ j, GPl P va vh vd rs j → ¬ j = w.heap.size := fun j g e => by have := h.lo j (.inr g); omega
  refine ⟨_, n, S.done, k, S.holders, S.reads, marksOf S.A N, S.A.log, rfl, ⟨vh, vd, rs, gm, gl, ?_, hk.own h.ho (fun j e => hoff j (.inr (.inr (.inl e)))), hk.own h.re (fun j e => hoff j (.inr (.inr (.inr (.inl e))))), h.rl, fun i hi => hk.own (h.row i hi) (fun j e => hoff j (.inr (.inr (.inr (.inr ⟨i, by rw [h.rl]; exact hi, e⟩))))), (hk.block gm (Array.getElem?_eq_some_iff.1 hbm).1 (by omega)).trans hbm, (hk.block gl (Array.getElem?_eq_some_iff.1 hbl).1 (by omega)).trans hbl⟩, ht, hst.symm, hend, hkm, (hQ.trans h.kp (fun _ f _ => f)).trans hk (fun i e hi => by omega)⟩
  have e1 : (marksOf S.A N).length = N := by simp [marksOf]
  rw [e1, hst]
set_option maxHeartbeats 4000000 in
set_option maxRecDepth 100000 in
theorem play_ok (ao bo : Option Addr) (c d : Nat) (l : List Nat) (Z : List Int) (w : World) (hz : Ints w ao (l.map (fun n : Nat => (n : Int)))) (hp : Ints w bo Z) (hl : Rounds l) (hm : Z.length ≤ 1048576) :
    Calls Try.prog 17 #[.slice ao l.length c, .slice bo Z.length d] w fun e w' => PlayAns l Z.length w e w' := by
  have h64 := hl.len
  have hF := hl.frs_le
  have hF1 : 1 ≤ frs l := by unfold frs; omega
  have hk0 := Keeps.alloc None w (.cells #[.bool false, .int .i64 0, .slice none 0 0, .slice none 0 0, .slice none 0 0, .slice none 0 0] 51)
  have hb0 := new_at w (.cells #[.bool false, .int .i64 0, .slice none 0 0, .slice none 0 0, .slice none 0 0, .slice none 0 0] 51) _ rfl
  have hfa := fault_ok ao bo c Z.length d l _ (hz.kept hk0) hl hm
  obtain ⟨wz, hwz⟩ : ∃ wz, wz = w.alloc (.cells #[.bool false, .int .i64 0, .slice none 0 0, .slice none 0 0, .slice none 0 0, .slice none 0 0] 51) := ⟨_, rfl⟩
  have hsz : wz.heap.size = w.heap.size + 1 := by rw [hwz]; simp
  have HSZ : Hid _ := hsz
  clear hsz
  rw [← hwz] at hb0 hk0 hfa
  have HZ : Hid (Ints wz ao (l.map (fun n : Nat => (n : Int)))) := hz.kept hk0
  have HP : Hid (Ints wz bo Z) := hp.kept hk0
  have HR : Hid (Rounds l) := hl
  have H0 : Hid _ := And.intro hk0 hb0
  have hcl := fcells_any (frs l : Nat)
  have ec : cellsV (frs l : Nat) = ((1 + 10 * frs l : Nat) : Int) := by unfold cellsV; rw [if_pos (by omega)]; omega
  rw [ec] at hcl
  clear hz hp hl hk0 hb0 ec
  go_enter Try.func17, Try.ntmps17
  go_upto_region 1 with fail
  rw [← hwz]
  clear hwz
  go_wp2_with fail
  refine hfa.mono ?_
  rintro e w1 ⟨rfl, hw1⟩
  have hv1 := hw1.symm
  subst hv1
  clear hw1 hfa
  go_wp2_with fail
  go_loopw [7, 24] (fun s7 s24 wr => wr = wz ∧ ∃ k b : Nat, k ≤ l.length ∧ b = baseR l k ∧ s7 = .int .i64 b ∧ s24 = .int .i64 k) (fun _ s24 _ => l.length - (intOf s24).toNat)
  case atStart => exact ⟨rfl, 0, 1, Nat.zero_le _, by simp [baseR], rfl, rfl⟩
  case round =>
    obtain ⟨rfl, k, b, hk, hbk, rfl, rfl⟩ := hrel
    have HBK : Hid _ := hbk
    have hb513 : b ≤ 513 := by rw [hbk]; have := base_le l k; omega
    clear hbk
    by_cases hkl : k < l.length
    · obtain ⟨bl, off, rfl, -, hc⟩ := HZ.out (by simp; omega)
      have c0 := hc k (by simpa using hkl)
      rw [getD_map] at c0
      have h8 := HR.out.few k
      have hbs := base_succ hkl
      have HBS : Hid _ := hbs
      generalize hn : l.getD k 0 = n at c0 h8
      have HN : Hid _ := hn
      have j1 : (k : Int) < (l.length : Int) := by omega
      have j2 : (b : Int) ≤ 513 := by omega
      have j3 : (n : Int) ≤ 8 := by omega
      clear hc hbs hn
      go_wp2_with fail
      go_roundw
      case rel => refine ⟨by first | rfl | trivial, k + 1, b + n, by omega, by have h1 := HBK.out; have h2 := HBS.out; have h3 := HN.out; omega, by go_num, by go_num⟩
      case measure => simp only [intOf]; omega
    · have j1 : ¬ (k : Int) < (l.length : Int) := by omega
      obtain rfl : k = l.length := by omega
      have hbf : b = frs l := by have := HBK.out; rw [base_end] at this; exact this
      have HBF : Hid _ := hbf
      rw [← hbf] at hcl
      clear hbf
      generalize hfl : frs l = N at HBF hF hF1
      have HFL : Hid _ := hfl
      clear hfl
      obtain rfl : b = N := HBF.out
      clear HBF HBK
      go_wp2_with fail
      refine (hcl _).mono ?_
      rintro e w1 ⟨rfl, hw1⟩
      have hv1 := hw1.symm
      subst hv1
      clear hw1 hcl
      go_wp2_with fail
      refine (newA_as _ (1 + 10 * b) (by first | rfl | (rw [HFL.out]) | omega) (by omega) _).mono ?_
      rintro e w2 ⟨rfl, F2, hF2, hk2, hf2⟩
      have hnew := fnew_fresh wr.heap.size F2 b w2 hF2 ⟨hF1, by omega⟩
      have H2 : Hid _ := And.intro hk2 hf2
      clear hF2 hk2 hf2
      go_wp2_with fail
      refine hnew.mono ?_
      rintro e w3 ⟨rfl, F3, hF3, hk3, hf3⟩
      have hL : LawS wr (w3.alloc (.cells #[.int .i64 0, .int .i64 b] 30)) wr.heap.size w3.heap.size b F3 (tabA b) := by
        obtain ⟨h1, h2⟩ := H2.out
        have hs := h1.size
        refine ⟨hF3.kept (Keeps.alloc None w3 _) (fun _ _ f => f), (h1.trans hk3 (fun i f hi => by have := h2 i f; omega)).andAlloc _, fun k f => ?_, new_at w3 _ _ rfl, fun f => by have := hF3.lt f; omega⟩
        rcases hf3 k f with f | f
        · exact h2 k f
        · omega
      have hwt := arf_watch wr.heap.size F3 (tabA b) true _ hL.ar
      have HL : Hid _ := hL
      clear hF3 hk3 hf3 H2 hnew hL
      go_wp2_with fail
      refine hwt.mono ?_
      rintro e w5 ⟨rfl, hA5⟩
      obtain ⟨F5, hL5⟩ := HL.out.acc hA5
      obtain ⟨t0, t1⟩ := hL5.cells
      have hlt5 := hL5.kp.size
      have hPl : IsPlay wr (w5.alloc (.cells #[.pointer (some ⟨wr.heap.size, 0, none⟩), .int .i64 0, .int .i64 b, .slice ao l.length c, .slice none 0 0, .int .i64 0, .int .i64 0, .int .i64 0, .int .i64 0, .bool false, .slice none 0 0, .slice none 0 0] 86)) w5.heap.size wr.heap.size F5 ao c (.slice none 0 0) (.slice none 0 0) (.slice none 0 0) [] (Pl.start l) := by
        refine ⟨?_, ?_, World.ownsRow_nil _ _ _ _, World.ownsRow_nil _ _ _ _, World.ownsRow_nil _ _ _ _, rfl, fun i hi => absurd hi (Nat.not_lt_zero _), fun i j k hi => absurd hi (Nat.not_lt_zero _), fun k f g => ?_, hL5.kp.andAlloc _, fun k f => ?_, HZ.out⟩
        · have e1 : (Pl.start l).vals wr.heap.size (.slice ao (Pl.start l).rounds.length c) (.slice none 0 0) (.slice none 0 0) (.slice none 0 0) = #[.pointer (some ⟨wr.heap.size, 0, none⟩), .int .i64 0, .int .i64 b, .slice ao l.length c, .slice none 0 0, .int .i64 0, .int .i64 0, .int .i64 0, .int .i64 0, .bool false, .slice none 0 0, .slice none 0 0] := by
            simp [Pl.vals, Pl.start, HFL.out]
          rw [e1]
          exact new_at w5 _ _ rfl
        · have e2 : (Pl.start l).A = { tabA b with on := true } := by simp [Pl.start, HFL.out]
          rw [e2]
          exact hL5.ar.kept (Keeps.alloc None w5 _) (fun _ _ f => f)
        · rcases g with g | g | g | g | ⟨i, hi, -⟩
          · have := hL5.ar.lt f; omega
          · simp [Value.ownBlock] at g
          · simp [Value.ownBlock] at g
          · simp [Value.ownBlock] at g
          · exact absurd hi (Nat.not_lt_zero _)
        · rcases f with f | g
          · exact hL5.lo k f
          · rcases g with g | g | g | g | ⟨i, hi, -⟩
            · omega
            · simp [Value.ownBlock] at g
            · simp [Value.ownBlock] at g
            · simp [Value.ownBlock] at g
            · exact absurd hi (Nat.not_lt_zero _)
      have hT5 := ((Keeps.alloc None w5 (.cells #[.pointer (some ⟨wr.heap.size, 0, none⟩), .int .i64 0, .int .i64 b, .slice ao l.length c, .slice none 0 0, .int .i64 0, .int .i64 0, .int .i64 0, .int .i64 0, .bool false, .slice none 0 0, .slice none 0 0] 86)).block _ hL5.lt (fun f => f)).trans hL5.tab
      obtain ⟨u0, u1⟩ := tab_cells hT5
      have hbeg : OpF.beg 0 0 b 0 0 0 = allocO b := beg_ok 0 b 0 0 0 (by omega) (by omega) (by omega) (by omega)
      have hal := newAlloc_any 0 b
      rw [hbeg] at hal
      have hjo := fun wx h => join_any wr wx w5.heap.size wr.heap.size F5 ao c (.slice none 0 0) (.slice none 0 0) (.slice none 0 0) [] (Pl.start l) (allocO b) OpF.zero h (by show 0 ≤ 1000; omega) (by show 0 ≤ 1000; omega)
      have HPL : Hid _ := hPl
      simp only [OpF.value, OpF.vals, allocO, OpF.zero] at hal hjo
      clear hPl hT5 hbeg hA5 hwt hL5
      go_wp2_with fail
      refine (hal _).mono ?_
      rintro e w6 ⟨rfl, hk6⟩
      go_wp2_with fail
      refine (hjo _ (HPL.out.kept hk6)).mono ?_
      rintro e w7 ⟨rfl, va7, h7⟩
      have hI : Inv l (total l) ((Pl.start l).join ⟨0, b, 0, 0, 0, 0, 0, 0⟩ ⟨0, 0, 0, 0, 0, 0, 0, 0⟩) := by
        have := start_inv l HR.out
        rw [HFL.out] at this
        exact this
      have HI : Hid _ := And.intro h7 hI
      generalize hP : w5.heap.size = P at HI HPL
      clear hk6 hjo hal h7 hI t0 t1 u0 u1 hP HPL
      generalize hpA : wr.heap.size = pA at HI
      have HPA : Hid _ := hpA
      clear hpA
      obtain ⟨wQ, hwQ⟩ : ∃ wQ, wQ = wr := ⟨_, rfl⟩
      subst hwQ
      go_wp2_with fail
      go_loopw [14] (fun s14 wx => ∃ (k n : Nat) (S : Pl), k ≤ Z.length ∧ s14 = .int .i64 k ∧ PlayAt wQ wx P pA ao c S ∧ Inv l n S ∧ k + n = total l) (fun s14 _ => Z.length - (intOf s14).toNat)
      case atStart => exact ⟨0, total l, _, Nat.zero_le _, rfl, ⟨_, _, _, _, _, HI.out.1⟩, HI.out.2, by omega⟩
      case round =>
        obtain ⟨k, n, S, hkZ, rfl, hPA, hI, hkn⟩ := hrel
        obtain ⟨F8, va, vh, vd, rs, h8⟩ := hPA
        have c9 := h8.c9
        have hsteps : S.A.log.length = k := by have := hI.told.lg; omega
        by_cases hgo : k < Z.length ∧ n ≠ 0
        · obtain ⟨n', rfl⟩ : ∃ n', n = n' + 1 := ⟨n - 1, by omega⟩
          obtain ⟨ha1, ha2, hdn⟩ := hI.some
          rw [hdn] at c9
          have hsm := small_of hI
          obtain ⟨bb, off, hbo, -, hcz⟩ := HP.out (by omega)
          have cz := h8.kp.cell (hcz k hgo.1) (fun f => f)
          obtain ⟨xa, ca, hva⟩ := own_slice h8.al
          have c4 := h8.c4
          rw [hva] at c4
          generalize hzz : Z.getD k 0 = z at cz
          have HZK : Hid (Z.getD k 0 = z) := hzz
          obtain ⟨i, hmi⟩ : ∃ i : Nat, modV z S.alive.length = i := ⟨(modV z S.alive.length).toNat, by have := modV_bounds z S.alive.length (by omega); omega⟩
          have hil : i < S.alive.length := by have := modV_bounds z S.alive.length (by omega); omega
          have hmod := fun w => mod_any z S.alive.length w (by omega)
          rw [hmi] at hmod
          obtain ⟨hsafe, hnext⟩ := hI.step i hil
          have hrl : S.rounds.length ≤ 64 := by rw [round_len hI.b]; exact h64
          have hpick := fun wx h => pick_any wQ wx P pA ao c S i h hil hsafe hrl hsm
          have j1 : (k : Int) < (Z.length : Int) := by omega
          have H8 : Hid _ := And.intro h8 (And.intro hnext hcz)
          clear h8 hnext hsafe hsm hI hcz hva hzz hmi ha1 ha2 hdn
          subst hbo
          go_upto_region 21 with fail
          go_cut [72] (fun s72 wx => PlayAt wQ wx P pA ao c (S.pick i))
          case first =>
            refine wp_region_held_drew (S := (fun w' => w'.cell? ⟨bb, off + k, none⟩ = some (.int .i64 z))) (by kernel_rfl) ?_ (fun hHeld => ?_)
            · (try dsimp only); (first | with_reducible exact hs9 | with_reducible assumption | go_keep)
            refine wpAnyH_take (i := 0) (oi := { dst := some 72, op := Op.move (Operand.tmp 1), type := 45, pos := "play.go:57", after := #[], guard := none }) (v := ?_) rfl (by kernel_rfl) (by kernel_rfl) (by kernel_rfl) (fun _ _ _ h => h) (Or.inl ⟨by rfl, ?_⟩) (by assumption) ?_
            rotate_left
            · (intro wz hSw; (try dsimp only at hSw); go_simp; try with_reducible rfl)
            simp only [Act.put, List.setIfInBounds_toArray, List.set_cons_zero, List.set_cons_succ]
            refine wpAnyH_take (i := 1) (oi := { dst := some 73, op := Op.move (Operand.tmp 14), type := 3, pos := "play.go:57", after := #[], guard := none }) (v := ?_) rfl (by kernel_rfl) (by kernel_rfl) (by kernel_rfl) (fun _ _ _ h => h) (Or.inl ⟨by rfl, ?_⟩) (by assumption) ?_
            rotate_left
            · (intro wz hSw; (try dsimp only at hSw); go_simp; try with_reducible rfl)
            simp only [Act.put, List.setIfInBounds_toArray, List.set_cons_zero, List.set_cons_succ]
            refine wpAnyH_take (i := 2) (oi := { dst := some 74, op := Op.indexAddr 45 (Operand.tmp 72) (Operand.tmp 73), type := 0, pos := "play.go:57", after := #[{ on := 0, ground := Ground.data }, { on := 1, ground := Ground.data }], guard := none }) (v := ?_) rfl (by kernel_rfl) (by kernel_rfl) (by kernel_rfl) (fun _ _ _ h => h) (Or.inl ⟨by rfl, ?_⟩) (by assumption) ?_
            rotate_left
            · (intro wz hSw; (try dsimp only at hSw); go_simp; try with_reducible rfl)
            simp only [Act.put, List.setIfInBounds_toArray, List.set_cons_zero, List.set_cons_succ]
            refine wpAnyH_take (i := 3) (oi := { dst := some 75, op := Op.load 3 (Operand.tmp 74), type := 3, pos := "play.go:57", after := #[{ on := 2, ground := Ground.data }], guard := none }) (v := ?_) rfl (by kernel_rfl) (by kernel_rfl) (by kernel_rfl) (fun _ _ _ h => h) (Or.inl ⟨by rfl, ?_⟩) (by assumption) ?_
            rotate_left
            · (intro wz hSw; (try dsimp only at hSw); go_simp; try with_reducible rfl)
            simp only [Act.put, List.setIfInBounds_toArray, List.set_cons_zero, List.set_cons_succ]
            refine wpAnyH_take (i := 4) (oi := { dst := some 76, op := Op.fieldAddr 86 (Operand.tmp 13) 3, type := 0, pos := "play.go:57", after := #[], guard := none }) (v := ?_) rfl (by kernel_rfl) (by kernel_rfl) (by kernel_rfl) (fun _ _ _ h => h) (Or.inl ⟨by rfl, ?_⟩) (by assumption) ?_
            rotate_left
            · (intro wz hSw; (try dsimp only at hSw); go_simp; try with_reducible rfl)
            simp only [Act.put, List.setIfInBounds_toArray, List.set_cons_zero, List.set_cons_succ]
            refine wpAnyH_ready (rs := [5]) (by kernel_rfl) (by simp) ?_
            refine AllReadyH.cons (o := { dst := some 77, op := Op.load 84 (Operand.tmp 76), type := 84, pos := "play.go:57", after := #[{ on := 4, ground := Ground.data }], guard := none }) rfl (fun K hK => ?_) ?_
            · go_simp
              refine hK.out _ _ ?_ (fun hHeld2 => ?_)
              · (try dsimp only); (first | with_reducible exact hs9 | with_reducible assumption | go_keep)
              clear hK K
              try simp only [Act.put, List.setIfInBounds_toArray, List.set_cons_zero, List.set_cons_succ]
              refine wpAnyH_ready (rs := [6]) (by kernel_rfl) (by simp) ?_
              refine AllReadyH.cons (o := { dst := some 78, op := Op.call { callee := Callee.builtin Builtin.len, args := #[Operand.tmp 77], argTypes := #[84] }, type := 3, pos := "play.go:57", after := #[{ on := 5, ground := Ground.data }], guard := none }) rfl (fun K hK => ?_) ?_
              · go_simp
                refine hK.out _ _ ?_ (fun hHeld2 => ?_)
                · (try dsimp only); (first | with_reducible exact hs9 | with_reducible assumption | go_keep)
                clear hK K
                try simp only [Act.put, List.setIfInBounds_toArray, List.set_cons_zero, List.set_cons_succ]
                refine wpAnyH_ready (rs := [7]) (by kernel_rfl) (by simp) ?_
                refine AllReadyH.cons (o := { dst := some 79, op := Op.call { callee := Callee.value (Operand.func 38), args := #[Operand.tmp 75, Operand.tmp 78], argTypes := #[3, 3] }, type := 3, pos := "play.go:57", after := #[{ on := 3, ground := Ground.data }, { on := 6, ground := Ground.data }], guard := none }) rfl (fun K hK => ?_) ?_
                · go_simp
                  refine (hmod _).mono ?_
                  rintro _ w8 ⟨rfl, hw8⟩
                  have hv8 := hw8.symm
                  subst hv8
                  clear hw8
                  refine hK.out _ _ ?_ (fun hHeld2 => ?_)
                  · (try dsimp only); (first | with_reducible exact hs9 | with_reducible assumption | go_keep)
                  clear hK K
                  try simp only [Act.put, List.setIfInBounds_toArray, List.set_cons_zero, List.set_cons_succ]
                  refine wpAnyH_ready (rs := [8]) (by kernel_rfl) (by simp) ?_
                  refine AllReadyH.cons (o := { dst := some 80, op := Op.call { callee := Callee.value (Operand.func 37), args := #[Operand.tmp 13, Operand.tmp 79], argTypes := #[86, 3] }, type := 0, pos := "play.go:57", after := #[{ on := 7, ground := Ground.data }, { on := 7, ground := Ground.chain }], guard := none }) rfl (fun K hK => ?_) ?_
                  · go_simp
                    refine (hpick _ ⟨_, _, _, _, _, H8.out.1.kept (Keeps.drew None _)⟩).mono ?_
                    rintro _ w9 ⟨rfl, h9⟩
                    have hs9 : w9.cell? ⟨bb, off + k, none⟩ = some (.int .i64 (Z.getD k 0)) := by obtain ⟨F9, a9, b9, d9, r9, p9⟩ := h9; exact p9.kp.cell (H8.out.2.2 k hgo.1) (fun f => f)
                    rw [HZK.out] at hs9
                    refine hK.out _ _ ?_ (fun hHeld2 => ?_)
                    · (try dsimp only); (first | with_reducible exact hs9 | with_reducible assumption | go_keep)
                    clear hK K
                    try simp only [Act.put, List.setIfInBounds_toArray, List.set_cons_zero, List.set_cons_succ]
                    refine wpAnyH_done (by kernel_rfl) ?_ _
                    go_wp2_with fail
                    go_meet
                    exact h9
                  exact AllReadyH.nil
                exact AllReadyH.nil
              exact AllReadyH.nil
            exact AllReadyH.nil
          case rest =>
            have h9 := hcut
            have H9 : Hid _ := And.intro h9 H8.out.2.1
            clear hcut h9 c9 c4 cz hmod hpick
            go_wp2_with fail
            go_roundw
            case rel => exact ⟨k + 1, n', S.pick i, by omega, by go_num, H9.out.1, H9.out.2, by omega⟩
            case measure => simp only [intOf]; omega
        · obtain ⟨xh, ch, rfl⟩ := own_slice h8.ho
          obtain ⟨xd, cd, rfl⟩ := own_slice h8.re
          have hlen8 : S.A.cells.length = 1 + 10 * b := by
            have := mem_len hI
            rw [HFL.out] at this
            exact this
          have hfr : S.frames = (b : Nat) := by have := hI.b.fr; rw [HFL.out] at this; exact this
          have hmarks := fun wx hx => marks_any wQ wx P pA F8 ao c va (.slice xh S.holders.length ch) (.slice xd S.reads.length cd) rs S b hx hfr (by omega) hlen8
          have hlogc := fun wx (hx : IsPlay wQ wx P pA F8 ao c va (.slice xh S.holders.length ch) (.slice xd S.reads.length cd) rs S) => arf_log pA F8 S.A wx hx.ar (by rw [hsteps]; omega)
          rw [hsteps] at hlogc
          have hend : S.done = true ∨ k = Z.length := by
            by_cases hkz : k < Z.length
            · left
              obtain rfl : n = 0 := Classical.byContradiction fun e => hgo ⟨hkz, e⟩
              exact hI.done
            · exact .inr (by omega)
          have HA : Hid _ := And.intro h8 (And.intro hI (And.intro hsteps (And.intro hkZ hend)))
          have HRES : Hid (∀ wx, IsPlay wQ wx P pA F8 ao c va (.slice xh S.holders.length ch) (.slice xd S.reads.length cd) rs S → wx.heap[w.heap.size]? = some (.cells #[.bool false, .int .i64 0, .slice none 0 0, .slice none 0 0, .slice none 0 0, .slice none 0 0] 51 (0, 0))) := fun wx hx => (hx.kp.block w.heap.size (by have := HSZ.out; omega) (fun f => f)).trans H0.out.2
          have HCS : Hid (∀ wx, IsPlay wQ wx P pA F8 ao c va (.slice xh S.holders.length ch) (.slice xd S.reads.length cd) rs S → wx.cell? ⟨P, 9, none⟩ = some (.bool S.done) ∧ wx.cell? ⟨P, 10, none⟩ = some (.slice xh S.holders.length ch) ∧ wx.cell? ⟨P, 11, none⟩ = some (.slice xd S.reads.length cd)) := fun wx hx => ⟨hx.c9, hx.c10, hx.c11⟩
          have c10 := h8.c10
          have c11 := h8.c11
          have hlP := h8.lo P (.inr (.inl rfl))
          have hn1 : ¬ w.heap.size = P := by have := HSZ.out; omega
          have hn2 : ¬ P = w.heap.size := by have := HSZ.out; omega
          clear h8 hI hsteps hlen8 hfr hlP
          by_cases hkz : k < Z.length
          · have j1 : (k : Int) < (Z.length : Int) := by omega
            have hd : S.done = true := by rcases hend with e | e; exact e; omega
            rw [hd] at c9
            have hcs : ∀ wx, IsPlay wQ wx P pA F8 ao c va (.slice xh S.holders.length ch) (.slice xd S.reads.length cd) rs S → wx.cell? ⟨P, 9, none⟩ = some (.bool true) ∧ wx.cell? ⟨P, 10, none⟩ = some (.slice xh S.holders.length ch) ∧ wx.cell? ⟨P, 11, none⟩ = some (.slice xd S.reads.length cd) := fun wx hx => by have := HCS.out wx hx; rw [hd] at this; exact this
            have HD : Hid _ := hd
            have HC : Hid _ := hcs
            clear hend hd hgo hcs HCS
            go_upto_region 23 with fail
            go_region_held3 (fun w' => w'.cell? ⟨P, 9, none⟩ = some (.bool true) ∧ w'.cell? ⟨P, 10, none⟩ = some (.slice xh S.holders.length ch) ∧ w'.cell? ⟨P, 11, none⟩ = some (.slice xd S.reads.length cd)) (first | with_reducible exact hsL | with_reducible exact hsM | go_keep) (first
              | (go_at_call 39; refine (hmarks _ (by first | exact (HA.out.1.kept (Keeps.drew None _)).kept hkL | exact HA.out.1.kept (Keeps.drew None _))).mono ?_; rintro e wM ⟨gm, rfl, hgm, hbm, hkM⟩; have hPM : IsPlay wQ wM P pA F8 ao c va (.slice xh S.holders.length ch) (.slice xd S.reads.length cd) rs S := (by first | exact ((HA.out.1.kept (Keeps.drew None _)).kept hkL).kept hkM | exact (HA.out.1.kept (Keeps.drew None _)).kept hkM); have hsM := HC.out _ hPM; have hrM := HRES.out _ hPM; obtain ⟨r0, r1, r2, r3, r4, r5⟩ := zero6 hrM; obtain ⟨q0, q1, q2, q3, q4, q5⟩ := free6 hrM)
              | (go_at_call 40; refine (hlogc _ (by first | exact (HA.out.1.kept (Keeps.drew None _)).kept hkM | exact HA.out.1.kept (Keeps.drew None _))).mono ?_; rintro e wL ⟨gl, rfl, hgl, hbl, hkL⟩; have hPL : IsPlay wQ wL P pA F8 ao c va (.slice xh S.holders.length ch) (.slice xd S.reads.length cd) rs S := (by first | exact ((HA.out.1.kept (Keeps.drew None _)).kept hkM).kept hkL | exact (HA.out.1.kept (Keeps.drew None _)).kept hkL); have hsL := HC.out _ hPL; have hrL := HRES.out _ hPL; obtain ⟨r0, r1, r2, r3, r4, r5⟩ := zero6 hrL; obtain ⟨q0, q1, q2, q3, q4, q5⟩ := free6 hrL))
            all_goals go_wp2_with fail
            all_goals first
              | exact run_end rfl rfl hrL rfl rfl _ _ _ _ _ _ (fun w' hk => (by have h9 := ans_of H0.out.1 HSZ.out hPL HA.out.2.1 HA.out.2.2.1 HA.out.2.2.2.1 HA.out.2.2.2.2 HFL.out ((hkL.block gm (Array.getElem?_eq_some_iff.1 hbm).1 (fun f => f)).trans hbm) (by have := HA.out.1.kp.size; simp at hgm; omega) hbl (by have := hPM.kp.size; omega) hk; rw [HD.out] at h9; exact h9))
              | exact run_end rfl rfl hrM rfl rfl _ _ _ _ _ _ (fun w' hk => (by have h9 := ans_of H0.out.1 HSZ.out hPM HA.out.2.1 HA.out.2.2.1 HA.out.2.2.2.1 HA.out.2.2.2.2 HFL.out hbm (by have := hPL.kp.size; omega) ((hkM.block gl (Array.getElem?_eq_some_iff.1 hbl).1 (fun f => f)).trans hbl) (by have := HA.out.1.kp.size; simp at hgl; omega) hk; rw [HD.out] at h9; exact h9))
          · have j1 : ¬ (k : Int) < (Z.length : Int) := by omega
            generalize hd : S.done = dn at c9
            have hcs : ∀ wx, IsPlay wQ wx P pA F8 ao c va (.slice xh S.holders.length ch) (.slice xd S.reads.length cd) rs S → wx.cell? ⟨P, 9, none⟩ = some (.bool dn) ∧ wx.cell? ⟨P, 10, none⟩ = some (.slice xh S.holders.length ch) ∧ wx.cell? ⟨P, 11, none⟩ = some (.slice xd S.reads.length cd) := fun wx hx => by have := HCS.out wx hx; rw [hd] at this; exact this
            have HD : Hid _ := hd
            have HC : Hid _ := hcs
            clear hend hd hgo hcs HCS
            go_upto_region 23 with fail
            go_region_held3 (fun w' => w'.cell? ⟨P, 9, none⟩ = some (.bool dn) ∧ w'.cell? ⟨P, 10, none⟩ = some (.slice xh S.holders.length ch) ∧ w'.cell? ⟨P, 11, none⟩ = some (.slice xd S.reads.length cd)) (first | with_reducible exact hsL | with_reducible exact hsM | go_keep) (first
              | (go_at_call 39; refine (hmarks _ (by first | exact (HA.out.1.kept (Keeps.drew None _)).kept hkL | exact HA.out.1.kept (Keeps.drew None _))).mono ?_; rintro e wM ⟨gm, rfl, hgm, hbm, hkM⟩; have hPM : IsPlay wQ wM P pA F8 ao c va (.slice xh S.holders.length ch) (.slice xd S.reads.length cd) rs S := (by first | exact ((HA.out.1.kept (Keeps.drew None _)).kept hkL).kept hkM | exact (HA.out.1.kept (Keeps.drew None _)).kept hkM); have hsM := HC.out _ hPM; have hrM := HRES.out _ hPM; obtain ⟨r0, r1, r2, r3, r4, r5⟩ := zero6 hrM; obtain ⟨q0, q1, q2, q3, q4, q5⟩ := free6 hrM)
              | (go_at_call 40; refine (hlogc _ (by first | exact (HA.out.1.kept (Keeps.drew None _)).kept hkM | exact HA.out.1.kept (Keeps.drew None _))).mono ?_; rintro e wL ⟨gl, rfl, hgl, hbl, hkL⟩; have hPL : IsPlay wQ wL P pA F8 ao c va (.slice xh S.holders.length ch) (.slice xd S.reads.length cd) rs S := (by first | exact ((HA.out.1.kept (Keeps.drew None _)).kept hkM).kept hkL | exact (HA.out.1.kept (Keeps.drew None _)).kept hkL); have hsL := HC.out _ hPL; have hrL := HRES.out _ hPL; obtain ⟨r0, r1, r2, r3, r4, r5⟩ := zero6 hrL; obtain ⟨q0, q1, q2, q3, q4, q5⟩ := free6 hrL))
            all_goals go_wp2_with fail
            all_goals first
              | exact run_end rfl rfl hrL rfl rfl _ _ _ _ _ _ (fun w' hk => (by have h9 := ans_of H0.out.1 HSZ.out hPL HA.out.2.1 HA.out.2.2.1 HA.out.2.2.2.1 HA.out.2.2.2.2 HFL.out ((hkL.block gm (Array.getElem?_eq_some_iff.1 hbm).1 (fun f => f)).trans hbm) (by have := HA.out.1.kp.size; simp at hgm; omega) hbl (by have := hPM.kp.size; omega) hk; rw [HD.out] at h9; exact h9))
              | exact run_end rfl rfl hrM rfl rfl _ _ _ _ _ _ (fun w' hk => (by have h9 := ans_of H0.out.1 HSZ.out hPM HA.out.2.1 HA.out.2.2.1 HA.out.2.2.2.1 HA.out.2.2.2.2 HFL.out hbm (by have := hPL.kp.size; omega) ((hkM.block gl (Array.getElem?_eq_some_iff.1 hbl).1 (fun f => f)).trans hbl) (by have := HA.out.1.kp.size; simp at hgl; omega) hk; rw [HD.out] at h9; exact h9))
end Go.Proofs.Ytlligclkoecknaa
