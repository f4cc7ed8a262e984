import Derived.Test.YtiibflbfnoddmaaDoorPkAL
/-! parlib.copied: a function in memory of its own, with the new numbers in its spawns. -/
namespace Go.Proofs.YtiibflbfnoddmaaDoor
set_option linter.unusedVariables false
set_option maxRecDepth 20000
open Go.RowKit Go.HeapKit Go.PlainOps

/-- 'copy(code, f.Code)' over a block that is as long. -/
theorem copy_seen (ty : TypeId) (g n c : Nat) (cur : Array Value) (w : World) (hg : w.heap[g]? = some (.cells cur 43 (0, 0))) (hcs : cur.size = n * 5) (a : Option Addr) (cc : Nat) (l : List Ins) (h : SeenI w a n l) :
    ∃ w', (Builtin.copy_ #[39, 39] ty #[.slice (some ⟨g, 0, none⟩) n c, .slice a n cc]).run Tryd.prog w = .ok (goInt n) w' ∧ w'.heap[g]? = some (.cells (codeC l).toArray 43 (0, 0)) ∧ w.grownBy w' (some g) := by
  obtain ⟨i0, hi, hz0, hz1, hz2⟩ := info_parts Tryd.plIns
  have hu := Tryd.underlying39
  have hlen := codeC_length l
  rw [← h.len] at hlen
  cases a with
  | none =>
    have h0 : n = 0 := by
      by_cases hp : 0 < n
      · obtain ⟨b, off, e, _⟩ := h.ex hp
        cases e
      · omega
    subst h0
    obtain rfl : l = [] := List.eq_nil_of_length_eq_zero h.len.symm
    obtain rfl : cur = #[] := Array.eq_empty_of_size_eq_zero (by simpa using hcs)
    refine ⟨w, ?_, hg, ⟨rfl, rfl, rfl, Nat.le_refl _, fun _ _ _ => rfl⟩⟩
    simp [Builtin.copy_, run_underlying hu, Builtin.lenOf, Builtin.firstCells, sizeOf, typeInfo, hi, storeCells]
  | some x =>
    have hc : ∀ j u, (codeC l)[j]? = some u → w.cell? (x.add j) = some u := fun j u hu => by
      obtain ⟨k, i, o, h1, rfl, h3⟩ := codeC_cell hu
      have hk : 0 < n := by have := (List.getElem?_eq_some_iff.1 h1).1; have := h.len; omega
      obtain ⟨b, off, e, _, hc⟩ := h.ex hk
      obtain rfl := Option.some.inj e
      have hI := hc k i h1
      rw [show (⟨b, off, none⟩ : Addr).add (k * 5 + o) = ⟨b, off + k * 5 + o, none⟩ by unfold Addr.add; split <;> simp_all; omega]
      have ho : o < 5 := (List.getElem?_eq_some_iff.1 h3).1
      match o, ho, h3 with
      | 0, _, h3 => simp [insCells] at h3; subst h3; exact hI.kind
      | 1, _, h3 => simp [insCells] at h3; subst h3; exact hI.a
      | 2, _, h3 => simp [insCells] at h3; subst h3; exact hI.b
      | 3, _, h3 => simp [insCells] at h3; subst h3; exact hI.c
      | 4, _, h3 => simp [insCells] at h3; subst h3; exact hI.k
    have hf := run_firstCells_some (P := Tryd.prog) w 5 n x n cc (codeC l) hlen hc
    have hst := run_storeCells_at Tryd.prog g 0 43 (codeC l) 0 cur w hg (by rw [hlen, hcs]; omega) (codeC_one l)
    refine ⟨w.setRow g (codeC l).toArray, ?_, (by first | exact setRow_heap hg | exact setRow_heap w g cur _ _ _ hg), ⟨rfl, rfl, rfl, by simp, fun k _ hk => setRow_other w g k _ (fun e => hk (by rw [e]))⟩⟩
    have he : cur.toList.take (0 + 0) ++ codeC l ++ cur.toList.drop (0 + 0 + (codeC l).length) = codeC l := by
      rw [show cur.toList.drop (0 + 0 + (codeC l).length) = [] from List.drop_eq_nil_of_le (by rw [hlen, Array.length_toList, hcs]; omega)]
      simp
    rw [he] at hst
    simp [Builtin.copy_, run_underlying hu, Builtin.lenOf, sizeOf, typeInfo, hi, hz1, hf, hst]
/-- Half of a list has its new numbers. -/
def halfL (l : List Ins) (k : Nat) : List Ins := (l.take k).map shI ++ l.drop k
theorem halfL_at {l : List Ins} {k : Nat} {i : Ins} (h : l[k]? = some i) : (halfL l k)[k]? = some i := by
  have hk := (List.getElem?_eq_some_iff.1 h).1
  unfold halfL
  rw [List.getElem?_append_right (by simp; omega), List.length_map, List.length_take, Nat.min_eq_left (by omega), Nat.sub_self, List.getElem?_drop, Nat.add_zero]
  exact h
theorem halfL_next {l : List Ins} {k : Nat} {i : Ins} (h : l[k]? = some i) : halfL l (k + 1) = (halfL l k).set k (shI i) := by
  have hk := (List.getElem?_eq_some_iff.1 h).1
  unfold halfL
  have e1 : l.take (k + 1) = l.take k ++ [i] := by rw [List.take_add_one, h]; rfl
  have e2 : l.drop k = i :: l.drop (k + 1) := by
    rw [List.drop_eq_getElem_cons hk]
    congr 1
    exact (List.getElem?_eq_some_iff.1 h).2
  rw [e1, e2, List.map_append, List.set_append_right _ _ (by simp; omega), List.length_map, List.length_take, Nat.min_eq_left (by omega), Nat.sub_self]
  simp
theorem halfL_length (l : List Ins) (k : Nat) (h : k ≤ l.length) : (halfL l k).length = l.length := by
  simp [halfL]
  omega
theorem halfL_done (l : List Ins) : halfL l l.length = l.map shI := by simp [halfL]
theorem codeC_set (l : List Ins) (k : Nat) (i : Ins) (x : Int) (h : l[k]? = some i) : (codeC l).set (k * 5 + 2) (.int .i64 x) = codeC (l.set k { i with b := x }) := by
  induction l generalizing k with
  | nil => simp at h
  | cons z l ih =>
    have e : codeC (z :: l) = insCells z ++ codeC l := rfl
    cases k with
    | zero =>
      simp at h
      subst h
      rfl
    | succ k =>
      have h1 := ih k (by simpa using h)
      have e2 : codeC ((z :: l).set (k + 1) { i with b := x }) = insCells z ++ codeC (l.set k { i with b := x }) := rfl
      rw [e, e2, ← h1, List.set_append_right _ _ (by simp [insCells]; omega)]
      congr 1
      rw [show (k + 1) * 5 + 2 - (insCells z).length = k * 5 + 2 by simp [insCells]; omega]
/-- The closure that tells the new numbers. -/
def renV (p : Nat) : Value := .func (Fn.func 59) #[] #[.pointer (some ⟨p, 0, none⟩)]
theorem behind1_any (x : Int) (p : Nat) (w : World) (hp : w.cell? ⟨p, 0, none⟩ = some (.int .i64 2)) (h0 : -1000000 ≤ x) (h1 : x ≤ 1000000) : Calls Tryd.prog 59 #[.int .i64 x, .pointer (some ⟨p, 0, none⟩)] w fun e w' => e = .returned (.int .i64 (x + 2)) ∧ w' = w := by
  go_enter Tryd.func59, Tryd.ntmps59
  go_wp2
  go_ret
  exact ⟨rfl, rfl⟩
theorem behind_any (w : World) : Calls Tryd.prog 41 #[.int .i64 2] w fun e w' => e = .returned (renV w.heap.size) ∧ w'.cell? ⟨w.heap.size, 0, none⟩ = some (.int .i64 2) ∧ Keeps None w w' := by
  go_enter Tryd.func41, Tryd.ntmps41
  go_wp2
  go_ret
  exact ⟨rfl, (blk_cell (heap_alloc_new w _) 0).trans rfl, Keeps.alloc _ _ _⟩
set_option maxHeartbeats 4000000 in
theorem copied_any (f : Fn) (ca : Option Addr) (cc : Nat) (p : Nat) (w : World) (hp : w.cell? ⟨p, 0, none⟩ = some (.int .i64 2)) (hs : SeenI w ca f.code.length f.code) (hb : ∀ i ∈ f.code, i.kind = 5 → 0 ≤ i.b ∧ i.b ≤ 1000) (hl : f.code.length ≤ 1000) :
    Calls Tryd.prog 65 #[.agg #[.int .i64 f.params, .int .i64 f.regs, .int .i64 f.slots, .slice ca f.code.length cc], renV p] w fun e w' => ∃ g c, e = .returned (.agg #[.int .i64 f.params, .int .i64 f.regs, .int .i64 f.slots, .slice (some ⟨g, 0, none⟩) f.code.length c]) ∧ OwnC w' w.heap.size (.slice (some ⟨g, 0, none⟩) f.code.length c) (f.code.map shI) ∧ Keeps None w w' := by
  obtain ⟨par, regs, slots, code⟩ := f
  simp only at *
  obtain ⟨n, hn⟩ : ∃ n, n = code.length := ⟨_, rfl⟩
  rw [← hn] at hs hl ⊢
  obtain ⟨B, hB⟩ : ∃ B, B = w.heap.size := ⟨_, rfl⟩
  obtain ⟨i0, hi, hz0, hz1, hz2⟩ := info_parts Tryd.plIns
  -- the two boxes
  have b1 := heap_alloc_new w (.cells #[.int .i64 par, .int .i64 regs, .int .i64 slots, .slice ca n cc] 41)
  have q1 := Keeps.alloc None w (.cells #[.int .i64 par, .int .i64 regs, .int .i64 slots, .slice ca n cc] 41)
  obtain ⟨W1, hW1⟩ : ∃ W1, W1 = w.alloc (.cells #[.int .i64 par, .int .i64 regs, .int .i64 slots, .slice ca n cc] 41) := ⟨_, rfl⟩
  have s1 : W1.heap.size = B + 1 := by rw [hW1, hB]; simp
  rw [← hW1] at b1 q1
  rw [← hB] at b1
  have b2 := heap_alloc_new W1 (.cells #[.int .i64 0, .int .i64 0, .int .i64 0, .slice none 0 0] 41)
  have q2 := Keeps.alloc None W1 (.cells #[.int .i64 0, .int .i64 0, .int .i64 0, .slice none 0 0] 41)
  obtain ⟨W2, hW2⟩ : ∃ W2, W2 = W1.alloc (.cells #[.int .i64 0, .int .i64 0, .int .i64 0, .slice none 0 0] 41) := ⟨_, rfl⟩
  have s2 : W2.heap.size = B + 2 := by rw [hW2]; simp [s1]
  rw [← hW2] at b2 q2
  rw [s1] at b2
  obtain ⟨M, hM, hMs, hmk⟩ := run_make_block (P := Tryd.prog) (w := W2) 39 43 i0 _ 5 40 Tryd.underlying39 hi hz0 hz1 hz2 n (by omega) (by omega)
  have b3 := heap_alloc_new W2 (.cells M 43)
  have q3 := Keeps.alloc None W2 (.cells M 43)
  rw [s2] at b3 hmk
  obtain ⟨W3, hW3⟩ : ∃ W3, W3 = W2.alloc (.cells M 43) := ⟨_, rfl⟩
  have s3 : W3.heap.size = B + 3 := by rw [hW3]; simp [s2]
  rw [← hW3] at b3 q3 hmk
  have k3 : Keeps None w W3 := (q1.trans q2 (fun _ f _ => f)).trans q3 (fun _ f _ => f)
  obtain ⟨W4, hcp, b4, hg4⟩ := copy_seen 3 (B + 2) n n M W3 b3 hMs ca cc code (hs.more k3)
  have q4 : Keeps (· = B + 2) W3 W4 := (Keeps.refl _ W3).andGrown hg4 (fun k e => .inl (by simpa using e.symm))
  have b1a := blk_kept (blk_kept b1 q2 (fun f => f)) q3 (fun f => f)
  have b1b := blk_kept b1a q4 (by omega)
  have b2b := blk_kept (blk_kept b2 q3 (fun f => f)) q4 (by omega)
  have hpB : p < B := by
    have h := hp
    simp only [World.cell?] at h
    by_cases hlt : p < w.heap.size
    · omega
    · rw [Array.getElem?_eq_none (by omega)] at h
      cases h
  have p4 : W4.cell? ⟨p, 0, none⟩ = some (.int .i64 2) := q4.cell (k3.cell hp (fun f => f)) (by
    intro e
    have e' : p = B + 2 := e
    omega)
  have d2 : W2.cell? ⟨B, 3, none⟩ = some (.slice ca n cc) := (blk_cell (blk_kept b1 q2 (fun f => f)) 3).trans rfl
  have d3 : W3.cell? ⟨B, 3, none⟩ = some (.slice ca n cc) := (blk_cell b1a 3).trans rfl
  have s4 : B + 3 ≤ W4.heap.size := by rw [← s3]; exact q4.size
  have HX : Hid (Keeps None w W4 ∧ W4.heap[B]? = some (.cells #[.int .i64 par, .int .i64 regs, .int .i64 slots, .slice ca n cc] 41 (0, 0)) ∧ W4.heap[B + 1]? = some (.cells #[.int .i64 0, .int .i64 0, .int .i64 0, .slice none 0 0] 41 (0, 0)) ∧ W4.cell? ⟨p, 0, none⟩ = some (.int .i64 2) ∧ W4.heap[B + 2]? = some (.cells (codeC code).toArray 43 (0, 0)) ∧ B = w.heap.size ∧ n = code.length ∧ B + 3 ≤ W4.heap.size ∧ n ≤ 1000 ∧ p < B) := ⟨k3.trans q4 (fun i e hi => by omega), b1b, b2b, p4, b4, hB, hn, s4, hl, hpB⟩
  have HC : Hid (∀ i ∈ code, i.kind = 5 → 0 ≤ i.b ∧ i.b ≤ 1000) := hb
  have i9 : (n : Int) ≤ 1000 := by omega
  clear b1 b2 b3 b1a b1b b2b p4 b4 hpB q1 q2 q3 q4 k3 hg4 hs hb s1 s3 s4 hp hl hn hM hMs hi hz0 hz1 hz2
  unfold renV
  go_enter Tryd.func65, Tryd.ntmps65
  go_upto_region 1 with fail
  rw [← hW1, ← hW2, ← hB]
  clear hW1 hW2 hB hW3 s2
  go_upto_region 2 with (at_make; refine wpList_make_run rfl (.tmp 9) (.tmp 9) 39 rfl rfl rfl hmk ?_)
  go_upto_region 3 with (at_builtin; refine wpList_copy_run rfl (.tmp 11) (.tmp 13) 39 39 rfl rfl rfl hcp ?_)
  clear hmk hcp d2 d3
  go_wp2_with fail
  go_loopw [6, 17] (fun _ s17 wr => ∃ k : Nat, k ≤ n ∧ s17 = .int .i64 k ∧ wr.heap[B + 2]? = some (.cells (codeC (halfL code k)).toArray 43 (0, 0)) ∧ Keeps (· = B + 2) W4 wr) (fun _ i _ => n - (intOf i).toNat)
  case atStart => exact ⟨0, Nat.zero_le _, rfl, by simpa [halfL] using HX.out.2.2.2.2.1, Keeps.refl _ _⟩
  case round =>
    obtain ⟨k, hk, rfl, hbk, hkp⟩ := hrel
    obtain ⟨X1, X2, X3, X4, X5, X6, X7, X8, X9, X10⟩ := HX.out
    by_cases hkn : k < n
    · have i1 : (k : Int) < (n : Int) := by omega
      have i2 : (0 : Int) ≤ (k : Int) := by omega
      have i3 : (k : Int) ≤ 1000 := by omega
      obtain ⟨i, hi⟩ : ∃ i, code[k]? = some i := ⟨code[k]'(by omega), by simp⟩
      have hhi := halfL_at hi
      have hc : ∀ j v, (insCells i)[j]? = some v → wr.cell? ⟨B + 2, k * 5 + j, none⟩ = some v := fun j v hv => by
        rw [blk_cell hbk]
        simpa using codeC_at (halfL code k) k i hhi j v hv
      have c0 : wr.cell? ⟨B + 2, k * 5, none⟩ = some (.int .i64 i.kind) := hc 0 _ rfl
      have c2 : wr.cell? ⟨B + 2, k * 5 + 2, none⟩ = some (.int .i64 i.b) := hc 2 _ rfl
      have z2 := blk_free hbk (k * 5 + 2)
      by_cases h5 : i.kind = 5
      · have hbb := HC.out i (List.mem_of_getElem? hi) h5
        have t5 : (i.kind == 5) = true := by simp [h5]
        have hp5 : wr.cell? ⟨p, 0, none⟩ = some (.int .i64 2) := hkp.cell X4 (by
          intro e
          have e' : p = B + 2 := e
          omega)
        have hcall := behind1_any i.b p wr hp5 (by omega) (by omega)
        have hset := blk_set (i := k * 5 + 2) hbk (.int .i64 (i.b + 2))
        have e1 : (codeC (halfL code k)).toArray.setIfInBounds (k * 5 + 2) (.int .i64 (i.b + 2)) = (codeC (halfL code (k + 1))).toArray := by
          rw [halfL_next hi]
          unfold shI
          rw [if_pos h5, ← codeC_set _ k i (i.b + 2) hhi]
          simp
        rw [e1] at hset
        have hks : Keeps (· = B + 2) W4 (wr.setCell ⟨B + 2, k * 5 + 2, none⟩ (.int .i64 (i.b + 2))) := hkp.andSet (.inl rfl) _
        have HR : Hid _ := And.intro hset hks
        clear hset hks e1 hbk hkp hc hhi hi h5 X1 X2 X3 X4 X5 X6 X7 X8 X9 X10 hp5 hbb
        go_wp2_with (go_at_call 59; refine hcall.mono ?_; rintro _ w2 ⟨rfl, hw2⟩; have hw3 := hw2.symm; subst hw3)
        exact ⟨⟨k + 1, by omega, by simp, HR.out.1, HR.out.2⟩, by simp [intOf]; omega⟩
      · have t5 : (i.kind == 5) = false := by simp [h5]
        have e1 : halfL code (k + 1) = halfL code k := by
          rw [halfL_next hi]
          unfold shI
          rw [if_neg h5]
          exact set_same _ _ _ hhi
        rw [← e1] at hbk
        have HR : Hid _ := And.intro hbk hkp
        clear hbk hkp hc hhi hi h5 e1 X1 X2 X3 X4 X5 X6 X7 X8 X9 X10
        go_wp2
        exact ⟨⟨k + 1, by omega, by simp, HR.out.1, HR.out.2⟩, by simp [intOf]; omega⟩
    · have i1 : ¬ ((k : Int) < (n : Int)) := by omega
      obtain rfl : k = n := by omega
      rw [X7, halfL_done] at hbk
      have g1 := blk_kept X2 hkp (by omega)
      have g2 := blk_kept X3 hkp (by omega)
      have y1 := blk_free g1 3
      have y0 : wr.cell? ⟨B, 3, none⟩ = some (.slice ca k cc) := (blk_cell g1 3).trans rfl
      have g1b := blk_set (i := 3) g1 (.slice (some ⟨B + 2, 0, none⟩) k k)
      have kk := Keeps.setCell (S := (· = B)) wr (a := ⟨B, 3, none⟩) rfl (.slice (some ⟨B + 2, 0, none⟩) k k)
      have g2b := blk_kept g2 kk (by omega)
      have g3b := blk_kept hbk kk (by omega)
      obtain ⟨W5, hW5⟩ : ∃ W5, W5 = wr.setCell ⟨B, 3, none⟩ (.slice (some ⟨B + 2, 0, none⟩) k k) := ⟨_, rfl⟩
      rw [← hW5] at g1b kk g2b g3b
      have kw : Keeps None w W5 := (X1.trans hkp (fun i e hi => by omega)).trans kk (fun i e hi => by omega)
      have c0 : W5.cell? ⟨B, 0, none⟩ = some (.int .i64 par) := (blk_cell g1b 0).trans rfl
      have c1 : W5.cell? ⟨B, 1, none⟩ = some (.int .i64 regs) := (blk_cell g1b 1).trans rfl
      have c2 : W5.cell? ⟨B, 2, none⟩ = some (.int .i64 slots) := (blk_cell g1b 2).trans rfl
      have c3 : W5.cell? ⟨B, 3, none⟩ = some (.slice (some ⟨B + 2, 0, none⟩) k k) := (blk_cell g1b 3).trans rfl
      have e0 : W5.cell? ⟨B + 1, 0, none⟩ = some (.int .i64 0) := (blk_cell g2b 0).trans rfl
      have e1 : W5.cell? ⟨B + 1, 1, none⟩ = some (.int .i64 0) := (blk_cell g2b 1).trans rfl
      have e2 : W5.cell? ⟨B + 1, 2, none⟩ = some (.int .i64 0) := (blk_cell g2b 2).trans rfl
      have e3 : W5.cell? ⟨B + 1, 3, none⟩ = some (.slice none 0 0) := (blk_cell g2b 3).trans rfl
      have z0 := blk_free g2b 0
      have z1 := blk_free g2b 1
      have z2 := blk_free g2b 2
      have z3 := blk_free g2b 3
      have HF : Hid (Keeps None w W5 ∧ W5.heap[B + 1]? = some (.cells #[.int .i64 0, .int .i64 0, .int .i64 0, .slice none 0 0] 41 (0, 0)) ∧ W5.heap[B + 2]? = some (.cells (codeC (code.map shI)).toArray 43 (0, 0)) ∧ B = w.heap.size ∧ k = (code.map shI).length ∧ k ≤ 1000) := ⟨kw, g2b, g3b, X6, by simp [X7], X9⟩
      clear X1 X2 X3 X4 X5 X6 X7 X8 X9 X10 hbk hkp g1 g2 g1b g2b g3b kk kw HX HC
      go_upto_region 10 with fail
      rw [← hW5]
      clear hW5
      go_wp2
      refine fn_end 4 rfl rfl HF.out.2.1 rfl rfl _ _ _ _ (fun w' hw' => ?_)
      obtain ⟨F1, F2, F3, F4, F5, F6⟩ := HF.out
      have F3' := blk_kept F3 hw' (by omega)
      refine ⟨B + 2, k, rfl, ?_, F1.trans hw' (fun i e hi => by omega)⟩
      rw [F5, ← F4]
      exact ⟨codeC_length _, .inr ⟨B + 2, _, _, rfl, by omega, F3', Nat.le_refl _, by unfold maxLen; omega, by simp [codeC_length], List.take_of_length_le (by rw [codeC_length]; exact Nat.le_refl _)⟩⟩
end Go.Proofs.YtiibflbfnoddmaaDoor
/-! parlib.ahead, made, forAll: For's program in memory. -/
namespace Go.Proofs.YtiibflbfnoddmaaDoor
set_option linter.unusedVariables false
set_option maxRecDepth 20000
open Go.RowKit Go.HeapKit Go.PlainOps

def fnC (x : Fn × Value) : List Value := [.int .i64 x.1.params, .int .i64 x.1.regs, .int .i64 x.1.slots, x.2]
def fnsC (L : List (Fn × Value)) : List Value := L.flatMap fnC
theorem fnsC_length (L : List (Fn × Value)) : (fnsC L).length = L.length * 4 := by
  induction L with
  | nil => rfl
  | cons x l ih => simp only [fnsC, List.flatMap_cons, List.length_append, List.length_cons] at ih ⊢; rw [ih]; simp [fnC]; omega
theorem fnsC_append (a b : List (Fn × Value)) : fnsC (a ++ b) = fnsC a ++ fnsC b := by simp [fnsC]
theorem fnsC_at (L : List (Fn × Value)) (k : Nat) (x : Fn × Value) (h : L[k]? = some x) (j : Nat) (v : Value) (hj : (fnC x)[j]? = some v) : (fnsC L)[k * 4 + j]? = some v := by
  have hj4 : j < 4 := (List.getElem?_eq_some_iff.1 hj).1
  induction L generalizing k with
  | nil => simp at h
  | cons z l ih =>
    have e : fnsC (z :: l) = fnC z ++ fnsC l := rfl
    have hz : (fnC z).length = 4 := rfl
    rw [e]
    cases k with
    | zero =>
      simp at h
      subst h
      rw [List.getElem?_append_left (by omega), Nat.zero_mul, Nat.zero_add]
      exact hj
    | succ k =>
      rw [List.getElem?_append_right (by omega), show (k + 1) * 4 + j - (fnC z).length = k * 4 + j by omega]
      exact ih k (by simpa using h)
/-- No two of the codes lie in one block. -/
def NdV (L : List (Fn × Value)) : Prop := L.Pairwise (fun x y => ∀ q, x.2.ownBlock = some q → y.2.ownBlock ≠ some q)
/-- A list of functions that is this call's own, and their codes. -/
structure OwnF (w : World) (base : Nat) (v : Value) (L : List (Fn × Value)) : Prop where
  row : w.ownsRow base 41 4 v L.length (fnsC L)
  codes : ∀ x ∈ L, OwnC w base x.2 x.1.code
  nd : NdV L
theorem OwnF.more {w w' : World} {base : Nat} {v : Value} {L : List (Fn × Value)} (h : OwnF w base v L) (hk : Keeps None w w') : OwnF w' base v L := ⟨hk.own h.row (fun _ _ f => f), fun x hx => (h.codes x hx).more hk, h.nd⟩
theorem OwnF.low {w : World} {base b2 : Nat} {v : Value} {L : List (Fn × Value)} (h : OwnF w base v L) (hb : b2 ≤ base) : OwnF w b2 v L := by
  refine ⟨⟨h.row.1, ?_⟩, fun x hx => (h.codes x hx).low hb, h.nd⟩
  rcases h.row.2 with h0 | ⟨g', cap, cur, e, hg, r⟩
  · exact .inl h0
  · exact .inr ⟨g', cap, cur, e, by omega, r⟩
theorem OwnF.seen {w : World} {base : Nat} {v : Value} {L : List (Fn × Value)} (h : OwnF w base v L) : ∃ a c, v = .slice a L.length c ∧ SeenF w a L.length (L.map (·.1)) := by
  rcases h.row.2 with ⟨rfl, h0⟩ | ⟨g, cap, cur, rfl, _, hb, hn, _, hcs, htk⟩
  · exact ⟨none, 0, by rw [h0], ⟨by simp, fun hp => by omega⟩⟩
  · refine ⟨_, cap, rfl, ⟨by simp, fun _ => ⟨g, 0, rfl, blk_lt hb, fun k f hf => ?_⟩⟩⟩
    rw [List.getElem?_map] at hf
    obtain ⟨x, hx, rfl⟩ := Option.map_eq_some_iff.1 hf
    obtain ⟨ca, cc, e, hs⟩ := (h.codes x (List.mem_of_getElem? hx)).shape
    have hc : ∀ j u, (fnC x)[j]? = some u → w.cell? ⟨g, 0 + k * 4 + j, none⟩ = some u := fun j u hu => by
      have h1 := fnsC_at L k x hx j u hu
      rw [blk_cell hb, ← Array.getElem?_toList, Nat.zero_add]
      rw [← htk, List.getElem?_take] at h1
      split at h1
      · exact h1
      · cases h1
    exact ⟨ca, cc, ⟨hc 0 _ rfl, hc 1 _ rfl, hc 2 _ rfl, by rw [← e]; exact hc 3 _ rfl, hs⟩⟩
/-- 'append(funcs, f)'. -/
theorem fn_more (base : Nat) (g n cap : Nat) (L : List (Fn × Value)) (f : Fn) (cv : Value) (g0 : Nat) (ty : TypeId) (w : World) (hn : n = L.length) (h : OwnF w base (.slice (some ⟨g, 0, none⟩) n cap) L) (hcv : OwnC w base cv f.code)
    (hg0 : w.heap[g0]? = some (.cells #[.int .i64 f.params, .int .i64 f.regs, .int .i64 f.slots, cv] 41 (0, 0))) (hb : base ≤ w.heap.size) (hl : L.length ≤ 1000) (hnd : ∀ x ∈ L, ∀ q, x.2.ownBlock = some q → cv.ownBlock ≠ some q) :
    ∃ g' cap' w', (Builtin.append_ #[22, 22] ty #[.slice (some ⟨g, 0, none⟩) n cap, .slice (some ⟨g0, 0, none⟩) 1 1]).run Tryd.prog w = .ok (.slice (some ⟨g', 0, none⟩) (n + 1) cap') w' ∧
      OwnF w' base (.slice (some ⟨g', 0, none⟩) (n + 1) cap') (L ++ [(f, cv)]) ∧ Keeps (· = g) w w' ∧ (g' = g ∨ w.heap.size ≤ g') := by
  obtain ⟨i0, hi, hz0, hz1, hz2⟩ := info_parts Tryd.plFn
  obtain ⟨ca, cc, ecv, -⟩ := hcv.shape
  subst hn
  obtain ⟨v', w', hr, ho, hgr, hmv, -⟩ := run_append_moved (P := Tryd.prog) w base 22 ty 41 i0 _ 4 48 Tryd.underlying22 hi hz0 hz1 hz2 rfl (by decide) _ L.length (fnsC L) h.row
    ⟨g0, 0, none⟩ 1 1 (fnC (f, cv)) rfl (fun j u hu => by
      rw [show (⟨g0, 0, none⟩ : Addr).add j = ⟨g0, j, none⟩ by unfold Addr.add; split <;> simp_all, blk_cell hg0]
      simpa [fnC] using hu) (by
      intro u hu
      simp [fnC] at hu
      rcases hu with rfl | rfl | rfl | rfl
      · rfl
      · rfl
      · rfl
      · rw [ecv]; rfl) (by unfold maxLen; omega) (by omega) hb
  have hsh : ∃ g' cap', v' = .slice (some ⟨g', 0, none⟩) (L.length + 1) cap' := by
    rcases ho.2 with ⟨hv, h0⟩ | ⟨g', cap', _, e, _⟩
    · omega
    · exact ⟨g', cap', e⟩
  obtain ⟨g', cap', rfl⟩ := hsh
  have hkp : Keeps (· = g) w w' := (Keeps.refl _ w).andGrown hgr (fun k e => .inl (by simpa [Value.ownBlock] using e.symm))
  have hap : ∀ {cv : Value} {l : List Ins}, OwnC w base cv l → OwnC w' base cv l := fun hc => hc.kept hkp (fun q e hq => by
    subst hq
    exact absurd rfl (own_apart hc h.row (by decide) e))
  refine ⟨g', cap', w', hr, ⟨?_, fun x hx => ?_, List.pairwise_append.2 ⟨h.nd, List.pairwise_singleton _ _, fun x hx y hy => by simp at hy; subst hy; exact hnd x hx⟩⟩, hkp, ?_⟩
  · rw [fnsC_append, List.length_append]
    have e1 : fnsC [(f, cv)] = fnC (f, cv) := by simp [fnsC]
    rw [e1]
    exact ho
  · rcases List.mem_append.1 hx with hx | hx
    · exact hap (h.codes x hx)
    · simp at hx
      subst hx
      exact hap hcv
  · rcases hmv with e | ⟨g2, e, h3⟩
    · simp [Value.ownBlock] at e
      exact .inl e
    · simp [Value.ownBlock] at e
      exact .inr (by omega)
theorem prog_end {Q : Ending → World → Prop} {a : Act} {w1 : World} {g : Nat} {x : Value} {fn : Func} (q : Tmp) (hfn : fn.results = #[.cell q 24]) (hb : w1.heap[g]? = some (.cells #[x] 24 (0, 0)))
    (ha : a.tmps.getD q undef = .pointer (some ⟨g, 0, none⟩)) (hd : a.defers = []) (v0 : Value) (hQ : ∀ w', Keeps (· = g) w1 w' → Q (.returned (.agg #[v0])) w') :
    bodyPost Tryd.prog fn Q .ret a (w1.setCell ⟨g, 0, none⟩ v0) := by
  have hb2 := blk_set (i := 0) hb v0
  refine bodyPost_ret (results_one (q := q) (ty := 24) hfn ha (run_loadVar_row _ g 24 24 _ _ _ hb2 Tryd.underlying24 rfl (by kernel_rfl))) hd (hQ _ ?_)
  exact Keeps.setCell (S := (· = g)) w1 (a := ⟨g, 0, none⟩) rfl _
set_option maxHeartbeats 4000000 in
theorem ahead_any (a : Option Addr) (n c : Nat) (fs : List Fn) (g0 c0 b : Nat) (L0 : List (Fn × Value)) (w0 w : World) (hS : SeenF w0 a n fs) (hk0 : Keeps None w0 w) (hg0 : w0.heap.size ≤ g0) (hL : OwnF w b (.slice (some ⟨g0, 0, none⟩) 2 c0) L0) (h2 : L0.length = 2) (hb : b ≤ w.heap.size)
    (hfs : ∀ f ∈ fs, f.code.length ≤ 1000 ∧ ∀ i ∈ f.code, i.kind = 5 → 0 ≤ i.b ∧ i.b ≤ 1000) (hn : n ≤ 100) :
    Calls Tryd.prog 51 #[.agg #[.slice a n c], .slice (some ⟨g0, 0, none⟩) 2 c0] w fun e w' => ∃ v L', e = .returned (.agg #[v]) ∧ OwnF w' b v L' ∧ L'.map (·.1) = L0.map (·.1) ++ fs.map shF ∧ Keeps (· = g0) w w' := by
  obtain ⟨B, hB⟩ : ∃ B, B = w.heap.size := ⟨_, rfl⟩
  have hgB : g0 < B := by
    have := own_lt hL.row (g := g0) rfl
    omega
  have b1 := heap_alloc_new w (.cells #[.slice a n c] 24)
  have q1 := Keeps.alloc None w (.cells #[.slice a n c] 24)
  obtain ⟨W1, hW1⟩ : ∃ W1, W1 = w.alloc (.cells #[.slice a n c] 24) := ⟨_, rfl⟩
  have s1 : W1.heap.size = B + 1 := by rw [hW1, hB]; simp
  rw [← hW1] at b1 q1
  rw [← hB] at b1
  have b2 := heap_alloc_new W1 (.cells #[.slice none 0 0] 24)
  have q2 := Keeps.alloc None W1 (.cells #[.slice none 0 0] 24)
  obtain ⟨W2, hW2⟩ : ∃ W2, W2 = W1.alloc (.cells #[.slice none 0 0] 24) := ⟨_, rfl⟩
  have s2 : W2.heap.size = B + 2 := by rw [hW2]; simp [s1]
  rw [← hW2] at b2 q2
  rw [s1] at b2
  have b1a := blk_kept b1 q2 (fun f => f)
  have k2 : Keeps None w W2 := q1.trans q2 (fun _ f _ => f)
  have hbh := behind_any W2
  rw [s2] at hbh
  unfold renV at hbh
  have HX : Hid (Keeps None w W2 ∧ W2.heap[B]? = some (.cells #[.slice a n c] 24 (0, 0)) ∧ W2.heap[B + 1]? = some (.cells #[.slice none 0 0] 24 (0, 0)) ∧ W2.heap.size = B + 2 ∧ B = w.heap.size ∧ g0 < B ∧ OwnF w b (.slice (some ⟨g0, 0, none⟩) 2 c0) L0 ∧ b ≤ w.heap.size ∧ Keeps None w0 w ∧ w0.heap.size ≤ g0 ∧ SeenF w0 a n fs ∧ n = fs.length ∧ L0.length = 2) := ⟨k2, b1a, b2, s2, hB, hgB, hL, hb, hk0, hg0, hS, hS.len, h2⟩
  have HC : Hid (∀ f ∈ fs, f.code.length ≤ 1000 ∧ ∀ i ∈ f.code, i.kind = 5 → 0 ≤ i.b ∧ i.b ≤ 1000) := hfs
  have i9 : (n : Int) ≤ 100 := by omega
  have HN : Hid (n ≤ 100) := hn
  clear b1 b2 b1a q1 q2 k2 s1 s2 hgB hL hb hk0 hg0 hS h2 hfs hn
  go_enter Tryd.func51, Tryd.ntmps51
  go_upto_region 1 with fail
  rw [← hW1, ← hW2, ← hB]
  clear hW1 hW2 hB
  go_wp2_with fail
  refine hbh.mono ?_
  rintro _ W3 ⟨rfl, hp3, k3⟩
  clear hbh
  have d3 : W3.cell? ⟨B, 0, none⟩ = some (.slice a n c) := (blk_cell (blk_kept HX.out.2.1 k3 (fun f => f)) 0).trans rfl
  have HY : Hid (Keeps None W2 W3 ∧ W3.cell? ⟨B + 2, 0, none⟩ = some (.int .i64 2)) := ⟨k3, hp3⟩
  clear k3 hp3
  go_upto_region 2 with fail
  go_wp2_with fail
  clear d3
  go_loopw [1, 7, 14] (fun s1 _ s14 wr => ∃ (k g cap m : Nat) (L : List (Fn × Value)), k ≤ n ∧ s14 = .int .i64 k ∧ s1 = .slice (some ⟨g, 0, none⟩) m cap ∧ m = L.length ∧ L.length = 2 + k ∧ OwnF wr b (.slice (some ⟨g, 0, none⟩) m cap) L ∧ L.map (·.1) = L0.map (·.1) ++ (fs.take k).map shF ∧ (g = g0 ∨ W3.heap.size ≤ g) ∧ Keeps (· = g0) W3 wr) (fun _ _ i _ => n - (intOf i).toNat)
  case atStart =>
    obtain ⟨X1, X2, X3, X4, X5, X6, X7, X8, X9, X10, X11, X12, X13⟩ := HX.out
    exact ⟨0, g0, c0, 2, L0, Nat.zero_le _, rfl, rfl, X13.symm, X13, (X7.more X1).more HY.out.1, by simp, .inl rfl, Keeps.refl _ _⟩
  case round =>
    obtain ⟨k, g, cap, m, L, hk, rfl, rfl, hm, hLl, hO, hmap, hg, hkp⟩ := hrel
    obtain ⟨X1, X2, X3, X4, X5, X6, X7, X8, X9, X10, X11, X12, X13⟩ := HX.out
    have s3 := HY.out.1.size
    have kr : Keeps None w0 wr := ((X9.trans X1 (fun _ f _ => f)).trans HY.out.1 (fun _ f _ => f)).trans hkp (fun i e hi => by omega)
    by_cases hkn : k < n
    · have i1 : (k : Int) < (n : Int) := by omega
      have i2 : (0 : Int) ≤ (k : Int) := by omega
      have i3 : (k : Int) ≤ 100 := by omega
      obtain ⟨bb, off, f, ca, cc, rfl, ef, hfa⟩ := (X11.more kr).at hkn
      have hcf := HC.out f (List.mem_of_getElem? ef)
      have y0 := hfa.params
      have y1 := hfa.regs
      have y2 := hfa.slots
      have y3 := hfa.code
      have hal := Keeps.alloc None wr (.cells #[.int .i64 f.params, .int .i64 f.regs, .int .i64 f.slots, .slice ca f.code.length cc] 41)
      have hp5 : wr.cell? ⟨B + 2, 0, none⟩ = some (.int .i64 2) := hkp.cell HY.out.2 (by intro e; have e' : B + 2 = g0 := e; omega)
      have hcall := copied_any f ca cc (B + 2) (wr.alloc (.cells #[.int .i64 f.params, .int .i64 f.regs, .int .i64 f.slots, .slice ca f.code.length cc] 41)) (hal.cell hp5 (fun f => f)) (hfa.seen.more hal) hcf.2 hcf.1
      unfold renV at hcall
      obtain ⟨par, regs, slots, code⟩ := f
      simp only at y0 y1 y2 y3 hcall hal
      obtain ⟨N, hN⟩ : ∃ N, N = code.length := ⟨_, rfl⟩
      rw [← hN] at y3 hcall hal
      have HO : Hid (OwnF wr b (.slice (some ⟨g, 0, none⟩) m cap) L ∧ m = L.length ∧ L.length = 2 + k ∧ L.map (·.1) = L0.map (·.1) ++ (fs.take k).map shF ∧ (g = g0 ∨ W3.heap.size ≤ g) ∧ Keeps (· = g0) W3 wr ∧ N = code.length ∧ fs[k]? = some ⟨par, regs, slots, code⟩ ∧ b ≤ wr.heap.size ∧ w.heap.size ≤ W3.heap.size ∧ Keeps None wr (wr.alloc (.cells #[.int .i64 par, .int .i64 regs, .int .i64 slots, .slice ca N cc] 41))) := ⟨hO, hm, hLl, hmap, hg, hkp, hN, ef, by have := hkp.size; omega, by omega, hal⟩
      clear hO hm hLl hmap hg hkp hN ef hal X1 X2 X3 X4 X5 X6 X7 X8 X9 X10 X11 X12 X13 kr hfa hcf hp5 s3
      go_wp2_with fail
      refine hcall.mono ?_
      rintro _ w5 ⟨gc, cx, rfl, ho5, k5⟩
      clear hcall
      obtain ⟨O1, O2, O3, O4, O5, O6, O7, O8, O9, O10, O11⟩ := HO.out
      have bN := heap_alloc_new w5 (.cells #[.int .i64 par, .int .i64 regs, .int .i64 slots, .slice (some ⟨gc, 0, none⟩) N cx] 41)
      have k6 := Keeps.alloc None w5 (.cells #[.int .i64 par, .int .i64 regs, .int .i64 slots, .slice (some ⟨gc, 0, none⟩) N cx] 41)
      have k56 : Keeps None wr (w5.alloc (.cells #[.int .i64 par, .int .i64 regs, .int .i64 slots, .slice (some ⟨gc, 0, none⟩) N cx] 41)) := (O11.trans k5 (fun _ f _ => f)).trans k6 (fun _ f _ => f)
      obtain ⟨g', cap', w7, hr, hO7, hk7, hg7⟩ := fn_more b g m cap L (shF ⟨par, regs, slots, code⟩) (.slice (some ⟨gc, 0, none⟩) N cx) w5.heap.size 22 (w5.alloc (.cells #[.int .i64 par, .int .i64 regs, .int .i64 slots, .slice (some ⟨gc, 0, none⟩) N cx] 41)) O2 (O1.more k56)
        ((ho5.low (by have := O11.size; omega)).more k6) bN (by have := k56.size; omega) (by omega) (fun x hx q e e2 => by
          have h1 := ((O1.codes x hx).base e).2
          have h2 := (ho5.base e2).1
          have h3 := O11.size
          omega)
      have hs6 := k56.size
      have HZ : Hid (OwnF w7 b (.slice (some ⟨g', 0, none⟩) (m + 1) cap') (L ++ [(shF ⟨par, regs, slots, code⟩, .slice (some ⟨gc, 0, none⟩) N cx)]) ∧ (L ++ [((shF ⟨par, regs, slots, code⟩ : Fn), Value.slice (some ⟨gc, 0, none⟩) N cx)]).map (·.1) = L0.map (·.1) ++ (fs.take (k + 1)).map shF ∧ (g' = g0 ∨ W3.heap.size ≤ g') ∧ Keeps (· = g0) W3 w7) := by
        refine ⟨hO7, ?_, ?_, ?_⟩
        · rw [List.map_append, O4, List.take_add_one, O8]
          simp
        · have := O6.size
          rcases hg7 with rfl | h7
          · exact O5
          · exact .inr (by omega)
        · exact (O6.trans k56 (fun _ f _ => f.elim)).trans hk7 (fun i e hi => by
            have e' : i = g := e
            rcases O5 with h | h
            · omega
            · omega)
      have HM : Hid (m = L.length ∧ L.length = 2 + k) := ⟨O2, O3⟩
      clear O1 O2 O3 O4 O5 O6 O7 O8 O9 O10 O11 bN k6 k56 hO7 hk7 hg7 hs6 ho5 k5
      go_wp2_with (at_builtin; refine wpList_append_run rfl (.tmp 18) (.tmp 22) 22 22 rfl rfl rfl hr ?_)
      exact ⟨⟨k + 1, g', cap', m + 1, _, by omega, by simp, rfl, by simp [← HM.out.1], by simp [HM.out.2]; omega, HZ.out.1, HZ.out.2.1, HZ.out.2.2.1, HZ.out.2.2.2⟩, by simp [intOf]; omega⟩
    · have i1 : ¬ ((k : Int) < (n : Int)) := by omega
      obtain rfl : k = n := by omega
      rw [List.take_of_length_le (by omega)] at hmap
      have bR := blk_kept (blk_kept X3 HY.out.1 (fun f => f)) hkp (by omega)
      have HO : Hid (OwnF wr b (.slice (some ⟨g, 0, none⟩) m cap) L ∧ L.map (·.1) = L0.map (·.1) ++ fs.map shF ∧ Keeps (· = g0) w wr ∧ wr.heap[B + 1]? = some (.cells #[.slice none 0 0] 24 (0, 0)) ∧ B = w.heap.size) := ⟨hO, hmap, (X1.trans HY.out.1 (fun _ f _ => f)).mono (fun _ f _ => f.elim) |>.trans hkp (fun _ e _ => e), bR, X5⟩
      clear hO hm hLl hmap hg hkp X1 X2 X3 X4 X5 X6 X7 X8 X9 X10 X11 X12 X13 kr s3 bR
      go_wp2_with fail
      refine (asm_program _ _ _ _).mono ?_
      rintro _ w5 ⟨rfl, k5⟩
      have bR := blk_kept HO.out.2.2.2.1 k5 (fun f => f)
      have z0 : w5.cell? ⟨B + 1, 0, none⟩ = some (.slice none 0 0) := (blk_cell bR 0).trans rfl
      have z1 := blk_free bR 0
      have HP : Hid (OwnF w5 b (.slice (some ⟨g, 0, none⟩) m cap) L ∧ Keeps (· = g0) w w5 ∧ w5.heap[B + 1]? = some (.cells #[.slice none 0 0] 24 (0, 0))) := ⟨HO.out.1.more k5, HO.out.2.2.1.trans k5 (fun _ f _ => f.elim), bR⟩
      clear k5 bR
      go_wp2
      refine prog_end 4 rfl HP.out.2.2 rfl rfl _ (fun w' hw' => ?_)
      obtain ⟨P1, P2, P3⟩ := HP.out
      have hB := HO.out.2.2.2.2
      refine ⟨_, L, rfl, ?_, HO.out.2.1, P2.trans hw' (fun i e hi => ?_)⟩
      · refine ⟨hw'.own P1.row (fun q e hq => ?_), fun x hx => (P1.codes x hx).kept hw' (fun q e hq => ?_), P1.nd⟩
        · subst hq
          have := own_type P1.row e P3
          exact absurd this (by decide)
        · subst hq
          have := own_type (P1.codes x hx) e P3
          exact absurd this (by decide)
      · have e' : i = B + 1 := e
        omega
end Go.Proofs.YtiibflbfnoddmaaDoor
/-! parlib.made and forAll: For's program in memory. -/
namespace Go.Proofs.YtiibflbfnoddmaaDoor
set_option linter.unusedVariables false
set_option maxRecDepth 20000
open Go.RowKit Go.HeapKit Go.PlainOps

theorem own_two (w : World) (b H : Nat) (f1 f2 : Fn) (v1 v2 : Value) (hH : w.heap.size = H) (hb : b ≤ H) (o1 : OwnC w b v1 f1.code) (o2 : OwnC w b v2 f2.code) (hnd : ∀ q, v1.ownBlock = some q → v2.ownBlock ≠ some q) :
    OwnF (w.alloc (.cells #[.int .i64 f1.params, .int .i64 f1.regs, .int .i64 f1.slots, v1, .int .i64 f2.params, .int .i64 f2.regs, .int .i64 f2.slots, v2] 41)) b (.slice (some ⟨H, 0, none⟩) 2 2) [(f1, v1), (f2, v2)] := by
  subst hH
  refine ⟨⟨rfl, .inr ⟨w.heap.size, 2, _, rfl, hb, heap_alloc_new w _, Nat.le_refl _, by unfold maxLen; omega, rfl, rfl⟩⟩, fun x hx => ?_, List.pairwise_cons.2 ⟨fun y hy => by simp at hy; subst hy; exact hnd, List.pairwise_singleton _ _⟩⟩
  simp at hx
  rcases hx with rfl | rfl
  · exact o1.more (Keeps.alloc _ _ _)
  · exact o2.more (Keeps.alloc _ _ _)
set_option maxHeartbeats 4000000 in
theorem made_any (a : Option Addr) (n c : Nat) (fs : List Fn) (bd u : Int) (w : World) (hS : SeenF w a n fs) (hbd : 0 ≤ bd ∧ bd ≤ 1000) (hfs : ∀ f ∈ fs, f.code.length ≤ 1000 ∧ ∀ i ∈ f.code, i.kind = 5 → 0 ≤ i.b ∧ i.b ≤ 1000) (hn : n ≤ 100) :
    Calls Tryd.prog 34 #[.agg #[.slice a n c], .int .i64 bd, .int .i64 u, .func (Fn.func 33) #[] #[]] w fun e w' => ∃ v L', e = .returned (.agg #[v]) ∧ OwnF w' w.heap.size v L' ∧ L'.map (·.1) = entF u :: rnF (lfC (bd + 2) u []) (hvC []) :: fs.map shF ∧ Keeps None w w' := by
  obtain ⟨B, hB⟩ : ∃ B, B = w.heap.size := ⟨_, rfl⟩
  have b1 := heap_alloc_new w (.cells #[.slice a n c] 24)
  have q1 := Keeps.alloc None w (.cells #[.slice a n c] 24)
  obtain ⟨W1, hW1⟩ : ∃ W1, W1 = w.alloc (.cells #[.slice a n c] 24) := ⟨_, rfl⟩
  have s1 : W1.heap.size = B + 1 := by rw [hW1, hB]; simp
  rw [← hW1] at b1 q1
  rw [← hB] at b1
  have b2 := heap_alloc_new W1 (.cells #[.slice none 0 0] 24)
  have q2 := Keeps.alloc None W1 (.cells #[.slice none 0 0] 24)
  obtain ⟨W2, hW2⟩ : ∃ W2, W2 = W1.alloc (.cells #[.slice none 0 0] 24) := ⟨_, rfl⟩
  have s2 : W2.heap.size = B + 2 := by rw [hW2]; simp [s1]
  rw [← hW2] at b2 q2
  rw [s1] at b2
  have b1a := blk_kept b1 q2 (fun f => f)
  have k2 : Keeps None w W2 := q1.trans q2 (fun _ f _ => f)
  have hbh := behind_any W2
  rw [s2] at hbh
  unfold renV at hbh
  have HX : Hid (Keeps None w W2 ∧ W2.heap[B]? = some (.cells #[.slice a n c] 24 (0, 0)) ∧ W2.heap[B + 1]? = some (.cells #[.slice none 0 0] 24 (0, 0)) ∧ W2.heap.size = B + 2 ∧ B = w.heap.size ∧ SeenF w a n fs ∧ n ≤ 100) := ⟨k2, b1a, b2, s2, hB, hS, hn⟩
  have HC : Hid (∀ f ∈ fs, f.code.length ≤ 1000 ∧ ∀ i ∈ f.code, i.kind = 5 → 0 ≤ i.b ∧ i.b ≤ 1000) := hfs
  have HBD : Hid (0 ≤ bd ∧ bd ≤ 1000) := hbd
  clear b1 b2 b1a q1 q2 k2 s1 s2 hS hfs hn hbd
  go_enter Tryd.func34, Tryd.ntmps34
  go_upto_region 1 with fail
  rw [← hW1, ← hW2, ← hB]
  clear hW1 hW2 hB
  go_wp2_with fail
  refine hbh.mono ?_
  rintro _ W3 ⟨rfl, hp3, k3⟩
  clear hbh
  have hcl := behind1_any bd (B + 2) W3 hp3 (by have := HBD.out; omega) (by have := HBD.out; omega)
  have HY : Hid (Keeps None w W3 ∧ W3.heap[B + 1]? = some (.cells #[.slice none 0 0] 24 (0, 0)) ∧ W3.heap[B]? = some (.cells #[.slice a n c] 24 (0, 0))) := ⟨HX.out.1.trans k3 (fun _ f _ => f), blk_kept HX.out.2.2.1 k3 (fun f => f), blk_kept HX.out.2.1 k3 (fun f => f)⟩
  clear k3 hp3
  go_wp2_with fail
  refine hcl.mono ?_
  rintro _ w4 ⟨rfl, hw4⟩
  have hw5 := hw4.symm
  subst hw5
  clear hcl
  go_upto_region 2 with fail
  have r0 : W3.drew.cell? ⟨B, 0, none⟩ = some (.slice a n c) := (Keeps.drew None W3).cell ((blk_cell HY.out.2.2 0).trans rfl) (fun f => f)
  have r00 : W3.cell? ⟨B, 0, none⟩ = some (.slice a n c) := (blk_cell HY.out.2.2 0).trans rfl
  refine wp_region_held_drew (S := (fun w' => w'.cell? ⟨B, 0, none⟩ = some (.slice a n c))) (by kernel_rfl) ?_ (fun hHeld => ?_)
  · (try dsimp only); first | exact r12 | exact r11 | exact r10 | exact r9 | exact r8 | exact r6 | exact r2 | exact r0
  refine wpAnyH_take (i := 0) (oi := { dst := some 12, op := Op.load 24 (Operand.tmp 4), type := 24, pos := "made.go:72", after := #[], guard := none }) (v := ?_) rfl (by kernel_rfl) (by kernel_rfl) (by kernel_rfl) (fun _ _ _ h => h) (Or.inl ⟨by rfl, ?_⟩) (by assumption) ?_
  rotate_left
  · (intro wz hSw; (try dsimp only at hSw); go_simp; try with_reducible rfl)
  simp only [Act.put, List.setIfInBounds_toArray, List.set_cons_zero, List.set_cons_succ]
  refine wpAnyH_take (i := 1) (oi := { dst := some 13, op := Op.move (Operand.tmp 2), type := 2, pos := "made.go:72", after := #[], guard := none }) (v := ?_) rfl (by kernel_rfl) (by kernel_rfl) (by kernel_rfl) (fun _ _ _ h => h) (Or.inl ⟨by rfl, ?_⟩) (by assumption) ?_
  rotate_left
  · (intro wz hSw; (try dsimp only at hSw); go_simp; try with_reducible rfl)
  simp only [Act.put, List.setIfInBounds_toArray, List.set_cons_zero, List.set_cons_succ]
  refine wpAnyH_take (i := 3) (oi := { dst := some 15, op := Op.move (Operand.tmp 1), type := 3, pos := "made.go:72", after := #[], guard := none }) (v := ?_) rfl (by kernel_rfl) (by kernel_rfl) (by kernel_rfl) (fun _ _ _ h => h) (Or.inl ⟨by rfl, ?_⟩) (by assumption) ?_
  rotate_left
  · (intro wz hSw; (try dsimp only at hSw); go_simp; try with_reducible rfl)
  simp only [Act.put, List.setIfInBounds_toArray, List.set_cons_zero, List.set_cons_succ]
  refine wpAnyH_take (i := 4) (oi := { dst := some 16, op := Op.move (Operand.tmp 2), type := 2, pos := "made.go:72", after := #[], guard := none }) (v := ?_) rfl (by kernel_rfl) (by kernel_rfl) (by kernel_rfl) (fun _ _ _ h => h) (Or.inl ⟨by rfl, ?_⟩) (by assumption) ?_
  rotate_left
  · (intro wz hSw; (try dsimp only at hSw); go_simp; try with_reducible rfl)
  simp only [Act.put, List.setIfInBounds_toArray, List.set_cons_zero, List.set_cons_succ]
  refine wpAnyH_take (i := 5) (oi := { dst := some 17, op := Op.move (Operand.tmp 3), type := 75, pos := "made.go:72", after := #[], guard := none }) (v := ?_) rfl (by kernel_rfl) (by kernel_rfl) (by kernel_rfl) (fun _ _ _ h => h) (Or.inl ⟨by rfl, ?_⟩) (by assumption) ?_
  rotate_left
  · (intro wz hSw; (try dsimp only at hSw); go_simp; try with_reducible rfl)
  simp only [Act.put, List.setIfInBounds_toArray, List.set_cons_zero, List.set_cons_succ]
  refine wpAnyH_take (i := 7) (oi := { dst := some 19, op := Op.move (Operand.tmp 3), type := 75, pos := "made.go:72", after := #[], guard := none }) (v := ?_) rfl (by kernel_rfl) (by kernel_rfl) (by kernel_rfl) (fun _ _ _ h => h) (Or.inl ⟨by rfl, ?_⟩) (by assumption) ?_
  rotate_left
  · (intro wz hSw; (try dsimp only at hSw); go_simp; try with_reducible rfl)
  simp only [Act.put, List.setIfInBounds_toArray, List.set_cons_zero, List.set_cons_succ]
  refine wpAnyH_ready (rs := [2]) (by kernel_rfl) (by simp) ?_
  refine AllReadyH.cons (o := { dst := some 14, op := Op.call { callee := Callee.value (Operand.func 52), args := #[Operand.tmp 13], argTypes := #[2] }, type := 41, pos := "made.go:72", after := #[{ on := 1, ground := Ground.data }], guard := none }) rfl (fun K hK => ?_) ?_
  · go_simp
    refine (entry_any u _).mono ?_
    rintro _ w2 ⟨v2, rfl, o2, k2⟩
    obtain ⟨ca2, cc2, rfl, -⟩ := o2.shape
    have r2 := k2.cell r0 (fun f => f)
    refine hK.out _ _ ?_ (fun hHeld2 => ?_)
    · (try dsimp only); first | exact r12 | exact r11 | exact r10 | exact r9 | exact r8 | exact r6 | exact r2 | exact r0
    clear hK K
    try simp only [Act.put, List.setIfInBounds_toArray, List.set_cons_zero, List.set_cons_succ]
    refine wpAnyH_ready (rs := [6]) (by kernel_rfl) (by simp) ?_
    refine AllReadyH.cons (o := { dst := some 18, op := Op.call { callee := Callee.value (Operand.func 54), args := #[Operand.tmp 15, Operand.tmp 16, Operand.tmp 17], argTypes := #[3, 2, 75] }, type := 39, pos := "made.go:72", after := #[{ on := 3, ground := Ground.data }, { on := 4, ground := Ground.data }, { on := 5, ground := Ground.data }, { on := 2, ground := Ground.chain }], guard := none }) rfl (fun K hK => ?_) ?_
    · go_simp
      refine (leaf_any (bd + 2) u _).mono ?_
      rintro _ w6 ⟨ca6, cc6, rfl, o6, k6⟩
      have r6 := k6.cell r2 (fun f => f)
      refine hK.out _ _ ?_ (fun hHeld2 => ?_)
      · (try dsimp only); first | exact r12 | exact r11 | exact r10 | exact r9 | exact r8 | exact r6 | exact r2 | exact r0
      clear hK K
      try simp only [Act.put, List.setIfInBounds_toArray, List.set_cons_zero, List.set_cons_succ]
      refine wpAnyH_ready (rs := [8]) (by kernel_rfl) (by simp) ?_
      refine AllReadyH.cons (o := { dst := some 20, op := Op.call { callee := Callee.value (Operand.func 55), args := #[Operand.tmp 19], argTypes := #[75] }, type := 39, pos := "made.go:72", after := #[{ on := 7, ground := Ground.data }, { on := 6, ground := Ground.chain }], guard := none }) rfl (fun K hK => ?_) ?_
      · go_simp
        refine (halves_any _).mono ?_
        rintro _ w8 ⟨ca8, cc8, rfl, o8, k8⟩
        have r8 := k8.cell r6 (fun f => f)
        refine hK.out _ _ ?_ (fun hHeld2 => ?_)
        · (try dsimp only); first | exact r12 | exact r11 | exact r10 | exact r9 | exact r8 | exact r6 | exact r2 | exact r0
        clear hK K
        try simp only [Act.put, List.setIfInBounds_toArray, List.set_cons_zero, List.set_cons_succ]
        refine wpAnyH_ready (rs := [9]) (by kernel_rfl) (by simp) ?_
        refine AllReadyH.cons (o := { dst := some 21, op := Op.call { callee := Callee.value (Operand.func 53), args := #[Operand.tmp 18, Operand.tmp 20], argTypes := #[39, 39] }, type := 41, pos := "made.go:72", after := #[{ on := 6, ground := Ground.data }, { on := 8, ground := Ground.data }, { on := 8, ground := Ground.chain }], guard := none }) rfl (fun K hK => ?_) ?_
        · go_simp
          refine (ranged_any ca6 ca8 _ cc6 _ cc8 _ _ (lfC (bd + 2) u []) (hvC []) _ rfl rfl (o6.more k8) o8 (by simp [lfC]) (by simp [hvC])).mono ?_
          rintro _ w9 ⟨v9, rfl, o9, k9⟩
          obtain ⟨ca9, cc9, rfl, -⟩ := o9.shape
          have r9 := k9.cell r8 (fun f => f)
          refine hK.out _ _ ?_ (fun hHeld2 => ?_)
          · (try dsimp only); first | exact r12 | exact r11 | exact r10 | exact r9 | exact r8 | exact r6 | exact r2 | exact r0
          clear hK K
          try simp only [Act.put, List.setIfInBounds_toArray, List.set_cons_zero, List.set_cons_succ]
          refine wpAnyH_ready (rs := [10]) (by kernel_rfl) (by simp) ?_
          refine AllReadyH.cons (o := { dst := some 22, op := Op.buildSlice 22 2 #[(0, Operand.tmp 14), (1, Operand.tmp 21)], type := 22, pos := "made.go:72", after := #[{ on := 2, ground := Ground.data }, { on := 9, ground := Ground.data }], guard := none }) rfl (fun K hK => ?_) ?_
          · go_simp
            have r10 := (Keeps.alloc None w9 (.cells #[.int .i64 2, .int .i64 7, .int .i64 1, .slice ca2 (entC u).length cc2, .int .i64 3, .int .i64 11, .int .i64 2, .slice ca9 (rnC (lfC (bd + 2) u []) (hvC [])).length cc9] 41)).cell r9 (fun f => f)
            refine hK.out _ _ ?_ (fun hHeld2 => ?_)
            · (try dsimp only); first | exact r12 | exact r11 | exact r10 | exact r9 | exact r8 | exact r6 | exact r2 | exact r0
            clear hK K
            try simp only [Act.put, List.setIfInBounds_toArray, List.set_cons_zero, List.set_cons_succ]
            refine wpAnyH_ready (rs := [11]) (by kernel_rfl) (by simp) ?_
            refine AllReadyH.cons (o := { dst := some 23, op := Op.call { callee := Callee.value (Operand.func 51), args := #[Operand.tmp 12, Operand.tmp 22], argTypes := #[24, 22] }, type := 24, pos := "made.go:72", after := #[{ on := 0, ground := Ground.data }, { on := 10, ground := Ground.data }, { on := 9, ground := Ground.chain }], guard := none }) rfl (fun K hK => ?_) ?_
            · go_simp
              have j9 : Keeps None w w9 := (((HY.out.1.andDrew.trans k2 (fun _ f _ => f)).trans k6 (fun _ f _ => f)).trans k8 (fun _ f _ => f)).trans k9 (fun _ f _ => f)
              have t3 : W3.heap.size ≤ w2.heap.size := k2.size
              have t6 := k6.size
              have t8 := k8.size
              have t9 := k9.size
              have tw := HY.out.1.size
              have tB := blk_lt HY.out.2.1
              have oL := own_two w9 w.heap.size w9.heap.size (entF u) (rnF (lfC (bd + 2) u []) (hvC [])) (.slice ca2 (entC u).length cc2) (.slice ca9 (rnC (lfC (bd + 2) u []) (hvC [])).length cc9) rfl j9.size ((((o2.more k6).more k8).more k9).low (b2 := w.heap.size) (by show w.heap.size ≤ W3.heap.size; exact tw)) (o9.low (by omega)) (fun q e e2 => by have h1 := (o2.base e).2; have h2 := (o9.base e2).1; omega)
              refine (ahead_any a n c fs w9.heap.size 2 w.heap.size _ w _ HX.out.2.2.2.2.2.1 (j9.andAlloc _) j9.size oL rfl (by simp; omega) HC.out HX.out.2.2.2.2.2.2).mono ?_
              rintro _ w11 ⟨v11, L', rfl, oL', hm', k11⟩
              obtain ⟨a11, c11, rfl, -⟩ := oL'.seen
              have r11 := k11.cell r10 (by intro e; have e' : B = w9.heap.size := e; omega)
              have k3b : Keeps None W3 w9 := (((Keeps.drew None W3).trans k2 (fun _ f _ => f)).trans k6 (fun _ f _ => f) |>.trans k8 (fun _ f _ => f)).trans k9 (fun _ f _ => f)
              have bR := blk_kept (blk_kept (blk_kept HY.out.2.1 k3b (fun f => f)) (Keeps.alloc None _ (.cells #[.int .i64 2, .int .i64 7, .int .i64 1, .slice ca2 (entC u).length cc2, .int .i64 3, .int .i64 11, .int .i64 2, .slice ca9 (rnC (lfC (bd + 2) u []) (hvC [])).length cc9] 41)) (fun f => f)) k11 (by omega)
              have z0 : w11.cell? ⟨B + 1, 0, none⟩ = some (.slice none 0 0) := (blk_cell bR 0).trans rfl
              have z1 := blk_free bR 0
              have r12 := (Keeps.setCell (S := (· = B + 1)) w11 (a := ⟨B + 1, 0, none⟩) rfl (.slice a11 L'.length c11)).cell r11 (by intro e; have e' : B = B + 1 := e; omega)
              have HF : Hid (OwnF w11 w.heap.size (.slice a11 L'.length c11) L' ∧ L'.map (·.1) = entF u :: rnF (lfC (bd + 2) u []) (hvC []) :: fs.map shF ∧ Keeps None w w11 ∧ w11.heap[B + 1]? = some (.cells #[.slice none 0 0] 24 (0, 0))) := ⟨oL', hm', (j9.andAlloc _).trans k11 (fun i e hi => by have e' : i = w9.heap.size := e; omega), bR⟩
              clear oL' hm' k11 bR oL j9 k3b o2 o6 o8 o9
              refine hK.out _ _ ?_ (fun hHeld2 => ?_)
              · (try dsimp only); first | exact r12 | exact r11 | exact r10 | exact r9 | exact r8 | exact r6 | exact r2 | exact r0
              clear hK K
              try simp only [Act.put, List.setIfInBounds_toArray, List.set_cons_zero, List.set_cons_succ]
              refine wpAnyH_ready (rs := [12]) (by kernel_rfl) (by simp) ?_
              refine AllReadyH.cons (o := { dst := none, op := Op.store 24 (Operand.tmp 8) (Operand.tmp 23), type := 0, pos := "made.go:72", after := #[{ on := 11, ground := Ground.data }, { on := 11, ground := Ground.chain }, { on := 0, ground := Ground.phase }, { on := 1, ground := Ground.phase }, { on := 2, ground := Ground.phase }, { on := 3, ground := Ground.phase }, { on := 4, ground := Ground.phase }, { on := 5, ground := Ground.phase }, { on := 6, ground := Ground.phase }, { on := 7, ground := Ground.phase }, { on := 8, ground := Ground.phase }, { on := 9, ground := Ground.phase }, { on := 10, ground := Ground.phase }, { on := 11, ground := Ground.phase }], guard := none }) rfl (fun K hK => ?_) ?_
              · go_simp
                refine hK.out _ _ ?_ (fun hHeld2 => ?_)
                · (try dsimp only); first | exact r12 | exact r11 | exact r10 | exact r9 | exact r8 | exact r6 | exact r2 | exact r0
                clear hK K
                try simp only [Act.put, List.setIfInBounds_toArray, List.set_cons_zero, List.set_cons_succ]
                refine wpAnyH_done (by kernel_rfl) ?_ _
                go_wp2_with fail
                refine prog_end 8 rfl HF.out.2.2.2 rfl rfl _ (fun w' hw' => ?_)
                obtain ⟨P1, P2, P3, P4⟩ := HF.out
                have hB := HX.out.2.2.2.2.1
                refine ⟨_, L', rfl, ?_, P2, P3.trans hw' (fun i e hi => ?_)⟩
                · refine ⟨hw'.own P1.row (fun q e hq => ?_), fun x hx => (P1.codes x hx).kept hw' (fun q e hq => ?_), P1.nd⟩
                  · subst hq
                    have := own_type P1.row e P4
                    exact absurd this (by decide)
                  · subst hq
                    have := own_type (P1.codes x hx) e P4
                    exact absurd this (by decide)
                · have e' : i = B + 1 := e
                  omega
              exact AllReadyH.nil
            exact AllReadyH.nil
          exact AllReadyH.nil
        exact AllReadyH.nil
      exact AllReadyH.nil
    exact AllReadyH.nil
  exact AllReadyH.nil
set_option maxHeartbeats 1600000 in
theorem forAll_any (a : Option Addr) (n c : Nat) (fs : List Fn) (bd : Int) (w : World) (hS : SeenF w a n fs) (hbd : 0 ≤ bd ∧ bd ≤ 1000) (hfs : ∀ f ∈ fs, f.code.length ≤ 1000 ∧ ∀ i ∈ f.code, i.kind = 5 → 0 ≤ i.b ∧ i.b ≤ 1000) (hn : n ≤ 100) :
    Calls Tryd.prog 21 #[.agg #[.slice a n c], .int .i64 bd] w fun e w' => ∃ v L', e = .returned (.agg #[v]) ∧ OwnF w' w.heap.size v L' ∧ L'.map (·.1) = forP fs bd ∧ Keeps None w w' := by
  obtain ⟨B, hB⟩ : ∃ B, B = w.heap.size := ⟨_, rfl⟩
  have b1 := heap_alloc_new w (.cells #[.slice a n c] 24)
  have q1 := Keeps.alloc None w (.cells #[.slice a n c] 24)
  obtain ⟨W1, hW1⟩ : ∃ W1, W1 = w.alloc (.cells #[.slice a n c] 24) := ⟨_, rfl⟩
  have s1 : W1.heap.size = B + 1 := by rw [hW1, hB]; simp
  rw [← hW1] at b1 q1
  rw [← hB] at b1
  have b2 := heap_alloc_new W1 (.cells #[.slice none 0 0] 24)
  have q2 := Keeps.alloc None W1 (.cells #[.slice none 0 0] 24)
  obtain ⟨W2, hW2⟩ : ∃ W2, W2 = W1.alloc (.cells #[.slice none 0 0] 24) := ⟨_, rfl⟩
  have s2 : W2.heap.size = B + 2 := by rw [hW2]; simp [s1]
  rw [← hW2] at b2 q2
  rw [s1] at b2
  have b1a := blk_kept b1 q2 (fun f => f)
  have k2 : Keeps None w W2 := q1.trans q2 (fun _ f _ => f)
  have hmd := made_any a n c fs bd 0 W2 (hS.more k2) hbd hfs hn
  have d0 : W2.cell? ⟨B, 0, none⟩ = some (.slice a n c) := (blk_cell b1a 0).trans rfl
  have HX : Hid (Keeps None w W2 ∧ W2.heap[B + 1]? = some (.cells #[.slice none 0 0] 24 (0, 0)) ∧ W2.heap.size = B + 2 ∧ B = w.heap.size) := ⟨k2, b2, s2, hB⟩
  clear b1 b2 b1a q1 q2 k2 s1 s2 hS hfs hn hbd
  go_enter Tryd.func21, Tryd.ntmps21
  go_upto_region 1 with fail
  rw [← hW1, ← hW2, ← hB]
  clear hW1 hW2 hB
  go_wp2_with fail
  refine hmd.mono ?_
  rintro _ w3 ⟨v3, L', rfl, oL', hm', k3⟩
  obtain ⟨a3, c3, rfl, -⟩ := oL'.seen
  have bR := blk_kept HX.out.2.1 k3 (fun f => f)
  have z0 : w3.cell? ⟨B + 1, 0, none⟩ = some (.slice none 0 0) := (blk_cell bR 0).trans rfl
  have z1 := blk_free bR 0
  have HF : Hid (OwnF w3 w.heap.size (.slice a3 L'.length c3) L' ∧ L'.map (·.1) = forP fs bd ∧ Keeps None w w3 ∧ w3.heap[B + 1]? = some (.cells #[.slice none 0 0] 24 (0, 0))) := ⟨oL'.low (by have := HX.out; omega), hm', HX.out.1.trans k3 (fun _ f _ => f), bR⟩
  clear oL' hm' k3 bR hmd d0
  go_wp2
  refine prog_end 4 rfl HF.out.2.2.2 rfl rfl _ (fun w' hw' => ?_)
  obtain ⟨P1, P2, P3, P4⟩ := HF.out
  have hB := HX.out.2.2.2
  refine ⟨_, L', rfl, ?_, P2, P3.trans hw' (fun i e hi => ?_)⟩
  · refine ⟨hw'.own P1.row (fun q e hq => ?_), fun x hx => (P1.codes x hx).kept hw' (fun q e hq => ?_), P1.nd⟩
    · subst hq
      have := own_type P1.row e P4
      exact absurd this (by decide)
    · subst hq
      have := own_type (P1.codes x hx) e P4
      exact absurd this (by decide)
  · have e' : i = B + 1 := e
    omega
end Go.Proofs.YtiibflbfnoddmaaDoor
