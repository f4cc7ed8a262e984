import Derived.Test.YtheginjjncnheaaHoFull
import Derived.Test.YtheginjjncnheaaHoGo2
import Derived.Deep.LoopGhost
import Derived.Deep.CutBlock
/-! hist.Order: what is told can be reached. -/
namespace Go.Proofs.Ytheginjjncnheaa
set_option linter.unusedVariables false
set_option maxRecDepth 20000
set_option linter.unusedSimpArgs false
open Go.RowKit Go.HeapKit

/-- An order as it is told. -/
def OrdIs (w w' : World) (l : List Cl) (most : Nat) (v : Value) (x : C4) : Prop := ∃ (g : Nat) (os : List Int) (M : List (C4 × Int)), v = .slice (some ⟨g, 0, none⟩) os.length os.length ∧ w'.heap[g]? = some (.cells (os.map (Value.int .i64)).toArray 3 (0, 0)) ∧ w.heap.size ≤ g ∧ Way l M x os ∧ Path l most M
/-- What Order tells. -/
def OrdPost (w : World) (l : List Cl) (most : Int) (e : Ending) (w' : World) : Prop := ∃ (v : Value) (er : Int), e = .returned (.tuple #[v, .int .i64 er]) ∧ Keeps None w w' ∧ (badE l most ≠ 0 → er = badE l most ∧ v = .slice none 0 0) ∧ (badE l most = 0 → (er = 41 ∧ Shut l most.toNat ∧ v = .slice none 0 0) ∨ (er = 0 ∧ ∃ x zs, Rch l most.toNat x zs ∧ InC l x ∧ thrB l x 4 = true ∧ OrdIs w w' l most.toNat v x))
theorem flat6_at (m : Nat) (T : List St) (k : Nat) (t : St) (ht : T[k]? = some t) (j : Nat) (hj : j < 6) : (T.flatMap (stC m))[k * 6 + j]? = (stC m t)[j]? := by
  induction T generalizing k with
  | nil => simp at ht
  | cons y T ih =>
    have e : (y :: T).flatMap (stC m) = stC m y ++ T.flatMap (stC m) := by simp
    have hl : (stC m y).length = 6 := rfl
    rw [e]
    cases k with
    | zero =>
      simp at ht
      subst ht
      rw [List.getElem?_append_left (by omega), Nat.zero_mul, Nat.zero_add]
    | succ k =>
      rw [List.getElem?_append_right (by omega), show (k + 1) * 6 + j - (stC m y).length = k * 6 + j by omega]
      exact ih k (by simpa using ht)
theorem flat6_len (m : Nat) (T : List St) : (T.flatMap (stC m)).length = T.length * 6 := by
  induction T with
  | nil => rfl
  | cons y T ih =>
    have e : (y :: T).flatMap (stC m) = stC m y ++ T.flatMap (stC m) := by simp
    have hl : (stC m y).length = 6 := rfl
    rw [e, List.length_append, ih, hl, List.length_cons]
    omega
theorem Sr.pop {W w : World} {S : Nat} {a : Option Addr} {n c : Nat} {vs : Nat → Value} {mb g tc : Nat} {l : List Cl} {most : Nat} {M : List (C4 × Int)} {T : List St} {t : St} (h : Sr W w S a n c vs mb (.slice (some ⟨g, 0, none⟩) (T.length + 1) tc) l most M (T ++ [t])) :
    (∀ j v, (stC most t)[j]? = some v → w.cell? ⟨g, T.length * 6 + j, none⟩ = some v) ∧ T.length + 1 ≤ tc ∧ Sr W (w.setCell ⟨S, 6, none⟩ (.slice (some ⟨g, 0, none⟩) T.length tc)) S a n c vs mb (.slice (some ⟨g, 0, none⟩) T.length tc) l most M T := by
  have hrow := h.row
  have hl : (T ++ [t]).length = T.length + 1 := by simp
  rcases hrow.2 with ⟨e, _⟩ | ⟨g', cap, cur, e, hb0, hg, hnc, hcm, hcs, htk⟩
  · cases e
  · injection e with e1 e2 e3
    injection e1 with e1
    injection e1 with e1
    subst e1 e3
    rw [hl] at hnc htk
    have kS : Keeps (· = S) w (w.setCell ⟨S, 6, none⟩ (.slice (some ⟨g, 0, none⟩) T.length tc)) := Keeps.setCell (S := (· = S)) w (a := ⟨S, 6, none⟩) rfl _
    have nS : ∀ {b : Nat} {cs : Array Value} {U : TypeId}, w.heap[b]? = some (.cells cs U (0, 0)) → U ≠ 59 → ¬ b = S := fun hb hU e => by
      have hs := h.sr.blk
      rw [← e, hb] at hs
      injection hs with hs
      injection hs with _ hs
      exact hU hs
    refine ⟨fun j v hv => ?_, hnc, ⟨h.keep.trans kS (fun i e hi => by have := h.slow; omega), ⟨by rw [blk_set h.sr.blk]; rfl⟩, h.slow, h.mlow, h.made.kept kS (fun b _ ⟨cur, hc⟩ => nS hc (by decide)), h.met.kept kS (h.met.ne h.sr.blk).symm, ?_, fun t' ht' => ?_⟩⟩
    · have hj : j < 6 := by have := (List.getElem?_eq_some_iff.1 hv).1; simpa [stC] using this
      have h1 := flat6_at most (T ++ [t]) T.length t (by simp) j hj
      rw [hv, ← htk, List.getElem?_take] at h1
      rw [blk_cell hg, ← Array.getElem?_toList]
      split at h1
      · exact h1
      · cases h1
    · refine ⟨flat6_len _ _, .inr ⟨g, tc, cur, rfl, hb0, blk_kept hg kS (nS hg (by decide)), by omega, hcm, hcs, ?_⟩⟩
      have e6 : (T ++ [t]).flatMap (stC most) = T.flatMap (stC most) ++ stC most t := by simp
      rw [e6] at htk
      have hlen := flat6_len most T
      have h4 : cur.toList.take (T.length * 6) = ((cur.toList.take ((T.length + 1) * 6)).take (T.length * 6)) := by rw [List.take_take, Nat.min_eq_left (by omega)]
      rw [h4, htk, ← hlen, List.take_left]
    · have hh := h.held t' (List.mem_append_left _ ht')
      exact hh.kept kS (fun q eq => by obtain ⟨cur, hc⟩ := held_blk hh eq; exact nS hc (by decide))
theorem bldS (a a0 a1 a2 a3 : Option Addr) (n c n0 k0 n1 k1 n2 k2 n3 k3 mb : Nat) (w : World) : (Instr.build 59 #[(0, .slice a n c), (1, .agg #[.slice a0 n0 k0, .slice a1 n1 k1, .slice a2 n2 k2, .slice a3 n3 k3]), (2, .map (some mb))]).run Try.prog w = .ok (.agg #[.slice a n c, .slice a0 n0 k0, .slice a1 n1 k1, .slice a2 n2 k2, .slice a3 n3 k3, .map (some mb), .slice none 0 0]) w := run_build _ _ _ _ (by kernel_rfl)
theorem mkM (w : World) : (Instr.makeMap 56 none).run Try.prog w = .ok (.map (some w.heap.size)) (w.alloc (.map #[] 0)) := by
  simp [Instr.makeMap, run_underlying Try.underM]
theorem muP_one (M : List (C4 × Int)) (T : C4 × List Int) : muP (M, [T]) ≤ 5651523 := by
  unfold muP
  have := unmet_le M
  simp only [List.length_singleton]
  omega
set_option maxHeartbeats 4000000 in
theorem order_ok (a : Option Addr) (n c : Nat) (l : List Cl) (most : Int) (w : World) (hS : Seen w a n l) (hn : (n + 1) * 56 ≤ 140737488355328) :
    Calls Try.prog 7 #[.slice a n c, .int .i64 most] w (OrdPost w l most) := by
  have hs := sorted_ok a n c l most w hS hn
  have HS : Hid (Seen w a n l) := hS
  have HP : Hid (∀ e w', OrdPost w l most e w' → OrdPost w l most e w') := fun _ _ h => h
  obtain ⟨E, hE⟩ : ∃ E, E = badE l most := ⟨_, rfl⟩
  have HE : Hid (E = badE l most) := hE
  have hs2 : Calls Try.prog 19 #[.slice a n c, .int .i64 most] w (fun e w' => ∃ vs : Nat → Value, e = .returned (.tuple #[.agg #[vs 0, vs 1, vs 2, vs 3], .int .i64 E]) ∧ Keeps None w w' ∧ (∀ i, i < 4 → ∃ a n c, vs i = .slice a n c) ∧ (E = 0 → Made w' w.heap.size vs l l.length)) := by
    rw [hE]
    exact hs
  clear hS hs hE
  go_enter Try.func7, Try.ntmps7
  go_upto_region 2 with (go_at_call 19; refine Calls.mono hs2 ?_; rintro _ w1 ⟨vs, rfl, hk1, hvs, hM⟩; obtain ⟨a0, n0, k0, e0⟩ := hvs 0 (by omega); obtain ⟨a1, n1, k1, e1⟩ := hvs 1 (by omega); obtain ⟨a2, n2, k2, e2⟩ := hvs 2 (by omega); obtain ⟨a3, n3, k3, e3⟩ := hvs 3 (by omega); rw [e0, e1, e2, e3]; have HV : Hid (Keeps None w w1 ∧ (E = 0 → Made w1 w.heap.size vs l l.length) ∧ vs 0 = .slice a0 n0 k0 ∧ vs 1 = .slice a1 n1 k1 ∧ vs 2 = .slice a2 n2 k2 ∧ vs 3 = .slice a3 n3 k3) := ⟨hk1, hM, e0, e1, e2, e3⟩; clear hk1 hvs hM e0 e1 e2 e3)
  have kB := Keeps.alloc None w1 (.cells #[.slice a0 n0 k0, .slice a1 n1 k1, .slice a2 n2 k2, .slice a3 n3 k3] 53)
  have bB := heap_alloc_new w1 (.cells #[.slice a0 n0 k0, .slice a1 n1 k1, .slice a2 n2 k2, .slice a3 n3 k3] 53)
  obtain ⟨w2, hw2⟩ : ∃ w2, w2 = w1.alloc (.cells #[.slice a0 n0 k0, .slice a1 n1 k1, .slice a2 n2 k2, .slice a3 n3 k3] 53) := ⟨_, rfl⟩
  obtain ⟨RB, hRB⟩ : ∃ RB, RB = w1.heap.size := ⟨_, rfl⟩
  rw [← hw2] at kB bB ⊢
  rw [← hRB] at bB ⊢
  have r0 : w2.cell? ⟨RB, 0, none⟩ = some (.slice a0 n0 k0) := (blk_cell bB 0).trans rfl
  have r1 : w2.cell? ⟨RB, 1, none⟩ = some (.slice a1 n1 k1) := (blk_cell bB 1).trans rfl
  have r2 : w2.cell? ⟨RB, 2, none⟩ = some (.slice a2 n2 k2) := (blk_cell bB 2).trans rfl
  have r3 : w2.cell? ⟨RB, 3, none⟩ = some (.slice a3 n3 k3) := (blk_cell bB 3).trans rfl
  have H2 : Hid (Keeps None w w2 ∧ (E = 0 → Made w2 w.heap.size vs l l.length)) := ⟨HV.out.1.trans kB (fun _ f _ => f), fun h => (HV.out.2.1 h).more kB⟩
  clear hw2 hRB kB bB hs2
  by_cases h0 : E = 0
  · subst h0
    have hbz := badE_zero HE.out.symm
    obtain ⟨h40, ⟨m, hm, hm1, hm2⟩, hhist⟩ := hbz
    subst hm
    have H40 : Hid (l.length ≤ 40) := h40
    clear h40 hhist
    -- the search's own block
    have kM := Keeps.alloc None w2 (.map #[] 0)
    have kS := Keeps.alloc None (w2.alloc (.map #[] 0)) (.cells #[.slice a n c, .slice a0 n0 k0, .slice a1 n1 k1, .slice a2 n2 k2, .slice a3 n3 k3, .map (some w2.heap.size), .slice none 0 0] 59)
    have hmm := mkM w2
    obtain ⟨W3, hW3⟩ : ∃ W3, W3 = w2.alloc (.map #[] 0) := ⟨_, rfl⟩
    obtain ⟨mb, hmb⟩ : ∃ mb, mb = w2.heap.size := ⟨_, rfl⟩
    rw [← hW3, ← hmb] at hmm kS
    rw [← hW3] at kM
    have hbd := bldS a a0 a1 a2 a3 n c n0 k0 n1 k1 n2 k2 n3 k3 mb W3
    have bM4 : (W3.alloc (.cells #[.slice a n c, .slice a0 n0 k0, .slice a1 n1 k1, .slice a2 n2 k2, .slice a3 n3 k3, .map (some mb), .slice none 0 0] 59)).heap[mb]? = some (.map #[] 0) := by
      have h1 : W3.heap[mb]? = some (.map #[] 0) := by rw [hW3, hmb]; exact heap_alloc_new w2 (.map #[] 0)
      exact (kS.block mb (Array.getElem?_eq_some_iff.1 h1).1 (fun f => f)).trans h1
    have bS4 := heap_alloc_new W3 (.cells #[.slice a n c, .slice a0 n0 k0, .slice a1 n1 k1, .slice a2 n2 k2, .slice a3 n3 k3, .map (some mb), .slice none 0 0] 59)
    obtain ⟨W4, hW4⟩ : ∃ W4, W4 = W3.alloc (.cells #[.slice a n c, .slice a0 n0 k0, .slice a1 n1 k1, .slice a2 n2 k2, .slice a3 n3 k3, .map (some mb), .slice none 0 0] 59) := ⟨_, rfl⟩
    obtain ⟨S, hSS⟩ : ∃ S, S = W3.heap.size := ⟨_, rfl⟩
    rw [← hW4] at kS bM4 bS4
    rw [← hSS] at bS4
    have hS1 : S = mb + 1 := by rw [hSS, hW3, hmb]; simp
    have k24 := kM.trans kS (fun _ f _ => f)
    have hS4 : Sr w W4 S a n c vs mb (.slice none 0 0) l m [] [] := ⟨H2.out.1.trans k24 (fun _ f _ => f), ⟨by rw [bS4, HV.out.2.2.1, HV.out.2.2.2.1, HV.out.2.2.2.2.1, HV.out.2.2.2.2.2]⟩, by have := (H2.out.1.trans kM (fun _ f _ => f)).size; omega, by have := H2.out.1.size; omega, (H2.out.2 rfl).more k24, ⟨_, _, bM4, rfl⟩, ⟨rfl, .inl ⟨rfl, rfl⟩⟩, fun t ht => by cases ht⟩
    have hmt := meet_ok w W4 S a n c vs mb (.slice none 0 0) l m [] [] c0 (.slice none 0 0) [] (-1) hS4 (.inl ⟨rfl, rfl⟩) rfl (by simp)
    have HMT : Hid (Calls Try.prog 20 #[.pointer (some ⟨S, 0, none⟩), .agg #[.int .i64 0, .int .i64 0, .int .i64 0, .int .i64 0, .int .i64 (m : Int), .slice none 0 0], .int .i64 (-1)] W4 fun e w' => e = .returned (.tuple #[]) ∧ ∃ tv', Sr w w' S a n c vs mb tv' l m [(c0, -1)] [(c0, .slice none 0 0, [])]) := Calls.mono hmt (fun e w' h => by obtain ⟨h1, tv', h2, _⟩ := h; exact ⟨h1, tv', h2⟩)
    clear hmt hS4 k24 bM4 bS4 kM
    go_upto_region 5 with fail
    rw [← hW3, ← hmb, ← hW4, ← hS1]
    clear hW3 hmb hW4 hSS hmm hbd kS hS1
    go_upto_block 0 with (go_at_call 20; refine Calls.mono HMT.out ?_; rintro _ w5 ⟨rfl, tv5, hs5⟩)
    have hg5 : Good l m ([(c0, -1)], [(c0, [])]) := by
      refine ⟨fun k j hk => ?_, fun t ht => ?_⟩
      · by_cases e : k = c0
        · subst e
          simp [lookM] at hk
          exact .inl ⟨rfl, hk.symm⟩
        · simp [lookM, e] at hk
      · simp at ht
        subst ht
        refine ⟨.nil, fun i hi => ?_, by simp [lookM]⟩
        rcases i with _ | _ | _ | _ | i
        · simp [c0, C4.at]
        · simp [c0, C4.at]
        · simp [c0, C4.at]
        · simp [c0, C4.at]
        · omega
    have hf5 : Full l m ([(c0, -1)], [(c0, [])]) := by
      refine ⟨fun k j hk => ?_, by simp [Met, lookM], fun y hy => ?_⟩
      · by_cases e : k = c0
        · subst e
          simp [lookM] at hk
          exact .inl ⟨rfl, hk.symm⟩
        · simp [lookM, e] at hk
      by_cases e : y = c0
      · subst e
        exact .inl ⟨[], by simp⟩
      · simp [Met, lookM, e] at hy
    obtain ⟨n₀, hn₀⟩ : ∃ n₀, n₀ = muP ([(c0, -1)], [(c0, [])]) := ⟨_, rfl⟩
    have hn₁ : n₀ ≤ 5651523 := by
      rw [hn₀]
      exact muP_one _ _
    have H5 : Hid (Sr w w5 S a n c vs mb tv5 l m [(c0, -1)] [(c0, .slice none 0 0, [])] ∧ Good l m ([(c0, -1)], [(c0, [])]) ∧ n₀ = muP ([(c0, -1)], [(c0, [])]) ∧ n₀ ≤ 5651523 ∧ Full l m ([(c0, -1)], [(c0, [])])) := ⟨hs5, hg5, hn₀, hn₁, hf5⟩
    clear hs5 hg5 hn₀ hn₁ hf5 HMT r0 r1 r2 r3 H2
    go_wp2_with fail
    go_loopg [] n₀ (fun k wr => ∃ (tv : Value) (M : List (C4 × Int)) (T : List St), Sr w wr S a n c vs mb tv l m M T ∧ Good l m (M, strip T) ∧ k = muP (M, strip T) ∧ k ≤ 5651523 ∧ Full l m (M, strip T))
    case atStart => exact ⟨tv5, _, _, H5.out.1, H5.out.2.1, H5.out.2.2.1, H5.out.2.2.2.1, H5.out.2.2.2.2⟩
    case round =>
      clear H5
      obtain ⟨tv, M, T, hs, hg, hmu, hk, hf⟩ := hrel
      rcases List.eq_nil_or_concat T with e | ⟨T0, t, e⟩
      · subst e
        obtain ⟨ta, tc, rfl⟩ : ∃ ta tc, tv = .slice ta 0 tc := by
          rcases hs.row.2 with ⟨e, _⟩ | ⟨g, cap, cur, e, _⟩
          · exact ⟨none, 0, e⟩
          · exact ⟨_, _, e⟩
        have s6 : wr.cell? ⟨S, 6, none⟩ = some (.slice ta 0 tc) := (blk_cell hs.sr.blk 6).trans rfl
        have HF : Hid (OrdPost w l m (.returned (.tuple #[.slice none 0 0, .int .i64 41])) wr) := ⟨_, _, rfl, hs.keep, fun h => absurd HE.out.symm h, fun _ => .inl ⟨rfl, Full.shut (M := M) hf, rfl⟩⟩
        clear hs hg hmu hk hf
        go_wp2_with fail
        go_ret2
        exact HF.out
      · rw [List.concat_eq_append] at e
        subst e
        obtain ⟨x, v, zs⟩ := t
        obtain ⟨g, tc, rfl⟩ : ∃ g tc, tv = .slice (some ⟨g, 0, none⟩) (T0.length + 1) tc := by
          rcases hs.row.2 with ⟨e, h0⟩ | ⟨g, cap, cur, e, _⟩
          · simp at h0
          · exact ⟨g, cap, by rw [e]; simp⟩
        obtain ⟨hc, htc, _⟩ := hs.pop
        have y0 : wr.cell? ⟨g, T0.length * 6, none⟩ = some (.int .i64 x.a) := hc 0 _ rfl
        have y1 : wr.cell? ⟨g, T0.length * 6 + 1, none⟩ = some (.int .i64 x.b) := hc 1 _ rfl
        have y2 : wr.cell? ⟨g, T0.length * 6 + 2, none⟩ = some (.int .i64 x.c) := hc 2 _ rfl
        have y3 : wr.cell? ⟨g, T0.length * 6 + 3, none⟩ = some (.int .i64 x.d) := hc 3 _ rfl
        have y4 : wr.cell? ⟨g, T0.length * 6 + 4, none⟩ = some (.int .i64 m) := hc 4 _ rfl
        have y5 : wr.cell? ⟨g, T0.length * 6 + 5, none⟩ = some v := hc 5 _ rfl
        have s6 : wr.cell? ⟨S, 6, none⟩ = some (.slice (some ⟨g, 0, none⟩) (T0.length + 1) tc) := (blk_cell hs.sr.blk 6).trans rfl
        have hv := hs.held (x, v, zs) (by simp)
        obtain ⟨va, vn, vc, hve⟩ : ∃ va vn vc, v = .slice va vn vc := by obtain ⟨va, vc, e, -⟩ := hv.shape; exact ⟨va, _, vc, e⟩
        subst hve
        have kA := Keeps.alloc None wr (.cells #[.int .i64 x.a, .int .i64 x.b, .int .i64 x.c, .int .i64 x.d, .int .i64 m, .slice va vn vc] 64)
        have bA := heap_alloc_new wr (.cells #[.int .i64 x.a, .int .i64 x.b, .int .i64 x.c, .int .i64 x.d, .int .i64 m, .slice va vn vc] 64)
        obtain ⟨W8, hW8⟩ : ∃ W8, W8 = wr.alloc (.cells #[.int .i64 x.a, .int .i64 x.b, .int .i64 x.c, .int .i64 x.d, .int .i64 m, .slice va vn vc] 64) := ⟨_, rfl⟩
        obtain ⟨AT, hAT⟩ : ∃ AT, AT = wr.heap.size := ⟨_, rfl⟩
        rw [← hW8] at kA bA
        rw [← hAT] at bA
        have hs8 := hs.more kA
        obtain ⟨_, _, hs9⟩ := hs8.pop
        have s68 : W8.cell? ⟨S, 6, none⟩ = some (.slice (some ⟨g, 0, none⟩) (T0.length + 1) tc) := (blk_cell hs8.sr.blk 6).trans rfl
        have f68 := blk_free hs8.sr.blk 6
        have k9 : Keeps (· = S) W8 (W8.setCell ⟨S, 6, none⟩ (.slice (some ⟨g, 0, none⟩) T0.length tc)) := Keeps.setCell (S := (· = S)) W8 (a := ⟨S, 6, none⟩) rfl _
        obtain ⟨W9, hW9⟩ : ∃ W9, W9 = W8.setCell ⟨S, 6, none⟩ (.slice (some ⟨g, 0, none⟩) T0.length tc) := ⟨_, rfl⟩
        rw [← hW9] at hs9 k9
        have hnA : ¬ AT = S := fun e => by
          have hb := hs8.sr.blk
          rw [← e, bA] at hb
          injection hb with hb
          injection hb with _ hb
          exact absurd hb (by decide)
        have bA9 := blk_kept bA k9 hnA
        have hv9 : Held W9 (.slice va vn vc) zs := (hv.kept kA (fun _ _ f => f)).kept k9 (fun q eq e => by
          obtain ⟨cur, hc⟩ := held_blk (hv.kept kA (fun _ _ f => f)) eq
          have hb := hs8.sr.blk
          rw [← e, hc] at hb
          injection hb with hb
          injection hb with _ hb
          exact absurd hb (by decide))
        have hst : strip (T0 ++ [(x, .slice va vn vc, zs)]) = strip T0 ++ [(x, zs)] := by simp [strip]
        rw [hst] at hg hmu hf
        obtain ⟨hr1, hr2, hr3⟩ := hg.todo (x, zs) (by simp)
        have hg0 : Good l m (M, strip T0) := ⟨hg.chain, fun t ht => hg.todo t (List.mem_append_left _ ht)⟩
        have hmu0 : muP (M, strip T0) < gk := by rw [hmu]; unfold muP; simp
        have H9 : Hid (Sr w W9 S a n c vs mb (.slice (some ⟨g, 0, none⟩) T0.length tc) l m M T0 ∧ Held W9 (.slice va vn vc) zs ∧ W9.heap[AT]? = some (.cells #[.int .i64 x.a, .int .i64 x.b, .int .i64 x.c, .int .i64 x.d, .int .i64 m, .slice va vn vc] 64 (0, 0)) ∧ Rch l m x zs ∧ InC l x ∧ (lookM M x).isSome = true ∧ Good l m (M, strip T0) ∧ muP (M, strip T0) < gk ∧ gk ≤ 5651523 ∧ Full l m (M, strip T0 ++ [(x, zs)])) := ⟨hs9, hv9, bA9, hr1, hr2, hr3, hg0, hmu0, hk, hf⟩
        have hT0 : T0.length ≤ 5651523 := by
          have h1 : T0.length ≤ muP (M, strip T0) := by unfold muP; simp [strip]
          omega
        have i1 : (0 : Int) < (T0.length : Int) + 1 := by omega
        have i2 : (T0.length : Int) ≤ (tc : Int) := by omega
        have i3 : ¬ tc = 0 := by omega
        obtain ⟨L0, hL0⟩ : ∃ L0, L0 = T0.length := ⟨_, rfl⟩
        rw [← hL0] at y0 y1 y2 y3 y4 y5 s6 s68 hW9 i1 i2 hT0
        have HL0 : Hid (L0 = T0.length) := hL0
        clear hs hg hmu hk hf hc htc hv kA bA hs8 hs9 k9 hnA bA9 hv9 hst hr1 hr2 hr3 hg0 hmu0 hL0
        go_upto_region 9 with fail
        rw [← hW8, ← hAT]
        clear hW8 hAT y0 y1 y2 y3 y4 y5 s6
        go_upto_region 10 with fail
        rw [← hW9]
        clear hW9 s68 f68
        have a0' : W9.cell? ⟨AT, 0, none⟩ = some (.int .i64 x.a) := (blk_cell H9.out.2.2.1 0).trans rfl
        have a1' : W9.cell? ⟨AT, 1, none⟩ = some (.int .i64 x.b) := (blk_cell H9.out.2.2.1 1).trans rfl
        have a2' : W9.cell? ⟨AT, 2, none⟩ = some (.int .i64 x.c) := (blk_cell H9.out.2.2.1 2).trans rfl
        have a3' : W9.cell? ⟨AT, 3, none⟩ = some (.int .i64 x.d) := (blk_cell H9.out.2.2.1 3).trans rfl
        have hth := through_ok S a n c vs mb _ l w.heap.size x W9 ⟨H9.out.1.sr, H9.out.1.made, HS.out.more H9.out.1.keep, H40.out⟩ H9.out.2.2.2.2.1
        obtain ⟨tb, htb⟩ : ∃ tb, tb = thrB l x 4 := ⟨_, rfl⟩
        have HTB : Hid (tb = thrB l x 4) := htb
        have HTH : Hid (Calls Try.prog 21 #[.pointer (some ⟨S, 0, none⟩), .agg #[.int .i64 x.a, .int .i64 x.b, .int .i64 x.c, .int .i64 x.d]] W9 fun e w' => e = .returned (.bool tb) ∧ Keeps None W9 w') := by rw [htb]; exact hth
        clear hth htb
        cases hb : tb with
        | true =>
          as_aux_lemma =>
            subst hb
            go_upto_region 11 with (go_at_call 21; refine Calls.mono HTH.out ?_; rintro _ w10 ⟨rfl, hk10⟩)
            have hs10 := H9.out.1.more hk10
            have hwy := way_ok w w10 S a n c vs mb _ l m M T0 x hs10 HS.out H9.out.2.2.2.2.2.2.1.chain H9.out.2.2.2.2.2.1 (by have := H9.out.2.2.2.2.1.sum H40.out; omega) H40.out
            have HWY : Hid (Calls Try.prog 22 #[.pointer (some ⟨S, 0, none⟩), .agg #[.int .i64 x.a, .int .i64 x.b, .int .i64 x.c, .int .i64 x.d]] w10 fun e w' => ∃ g k, e = .returned (.slice (some ⟨g, 0, none⟩) k k) ∧ Keeps None w10 w' ∧ OrdIs w w' l m (.slice (some ⟨g, 0, none⟩) k k) x) := Calls.mono hwy (fun e w' h => by obtain ⟨g, zs', h1, h3, h4, h5, h2⟩ := h; exact ⟨g, _, h1, h2, g, zs', M, rfl, h3, Nat.le_trans hs10.keep.size h5, h4, H9.out.2.2.2.2.2.2.2.2.2.path⟩)
            have HF : Hid (∀ v w', Keeps None w10 w' → OrdIs w w' l m v x → OrdPost w l m (.returned (.tuple #[v, .int .i64 0])) w') := fun v w' hk hv => ⟨v, 0, rfl, hs10.keep.trans hk (fun _ f _ => f), fun h => absurd HE.out.symm h, fun _ => .inr ⟨rfl, x, zs, H9.out.2.2.2.1, H9.out.2.2.2.2.1, HTB.out.symm, hv⟩⟩
            have b0 := hk10.cell a0' (fun f => f)
            have b1 := hk10.cell a1' (fun f => f)
            have b2 := hk10.cell a2' (fun f => f)
            have b3 := hk10.cell a3' (fun f => f)
            clear hwy hs10 hk10 a0' a1' a2' a3'
            go_wp2_with (go_at_call 22; refine Calls.mono HWY.out ?_; rintro _ w11 ⟨gw, kw, rfl, hk11⟩; have H11 : Hid _ := hk11; clear hk11)
            go_ret2
            exact HF.out _ _ H11.out.1 H11.out.2
        | false =>
          as_aux_lemma =>
            subst hb
            go_upto_region 12 with (go_at_call 21; refine Calls.mono HTH.out ?_; rintro _ w10 ⟨rfl, hk10⟩)
            have hs10 := H9.out.1.more hk10
            have hgo := goOn_ok w w10 S a n c vs mb _ l m M T0 x (.slice va vn vc) zs hs10 HS.out H40.out (H9.out.2.1.kept hk10 (fun _ _ f => f)) H9.out.2.2.2.2.1 (by have := H9.out.2.2.2.1.len; have := H9.out.2.2.2.2.1.sum H40.out; omega) (by have := HL0.out; omega)
            have HGO : Hid (Calls Try.prog 23 #[.pointer (some ⟨S, 0, none⟩), .agg #[.int .i64 x.a, .int .i64 x.b, .int .i64 x.c, .int .i64 x.d, .int .i64 m, .slice va vn vc]] w10 fun e w' => e = .returned (.tuple #[]) ∧ ∃ tv' M' T', Sr w w' S a n c vs mb tv' l m M' T' ∧ (M', strip T') = goK l m x zs (M, strip T0) 4) := hgo
            have bA := blk_kept H9.out.2.2.1 hk10 (fun f => f)
            have b0 : w10.cell? ⟨AT, 0, none⟩ = some (.int .i64 x.a) := (blk_cell bA 0).trans rfl
            have b1 : w10.cell? ⟨AT, 1, none⟩ = some (.int .i64 x.b) := (blk_cell bA 1).trans rfl
            have b2 : w10.cell? ⟨AT, 2, none⟩ = some (.int .i64 x.c) := (blk_cell bA 2).trans rfl
            have b3 : w10.cell? ⟨AT, 3, none⟩ = some (.int .i64 x.d) := (blk_cell bA 3).trans rfl
            have b4 : w10.cell? ⟨AT, 4, none⟩ = some (.int .i64 m) := (blk_cell bA 4).trans rfl
            have b5 : w10.cell? ⟨AT, 5, none⟩ = some (.slice va vn vc) := (blk_cell bA 5).trans rfl
            clear hgo hs10 hk10 a0' a1' a2' a3' bA
            go_wp2_with (go_at_call 23; refine Calls.mono HGO.out ?_; rintro _ w12 ⟨rfl, tv2, M2, T2, hs12, hgk⟩; have H12 : Hid (Sr w w12 S a n c vs mb tv2 l m M2 T2 ∧ (M2, strip T2) = goK l m x zs (M, strip T0) 4) := ⟨hs12, hgk⟩; clear hs12 hgk)
            obtain ⟨q1, q2, q3⟩ := H9.out.2.2.2.2.2.2.1.goK H40.out ⟨H9.out.2.2.2.1, H9.out.2.2.2.2.1⟩ H9.out.2.2.2.2.2.1 4 (by omega)
            have qf := H9.out.2.2.2.2.2.2.2.2.2.goK H9.out.2.2.2.1 HTB.out.symm
            rw [← H12.out.2] at q1 q2 qf
            go_roundg (muP (M2, strip T2))
            case measure => have := H9.out.2.2.2.2.2.2.2.1; omega
            case rel => exact ⟨tv2, M2, T2, H12.out.1, q1, rfl, by have := H9.out.2.2.2.2.2.2.2.1; have := H9.out.2.2.2.2.2.2.2.2.1; omega, qf⟩
  · have hq : (E != 0) = true := by simpa using h0
    have HF : Hid (OrdPost w l most (.returned (.tuple #[.slice none 0 0, .int .i64 E])) w2) := ⟨_, _, rfl, H2.out.1, fun _ => ⟨HE.out, rfl⟩, fun h => absurd (HE.out.trans h) h0⟩
    clear h0
    go_wp2_with fail
    go_ret2
    exact HF.out
end Go.Proofs.Ytheginjjncnheaa
