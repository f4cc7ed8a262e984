import Derived.Test.YtklepknkdkponaaDoorPwTurn
/-! lay: code is laid into a gift's lists. -/
namespace Go.Proofs.YtklepknkdkponaaDoor
set_option linter.unusedVariables false
set_option maxRecDepth 20000
open Go.RowKit Go.HeapKit

def Mix (l L : List Fn) (i j : Nat) : Prop := L.length = l.length ∧ ∀ (a : Nat) (f : Fn), l[a]? = some f → ∃ g : Fn, L[a]? = some g ∧ g.params = f.params ∧ g.regs = f.regs ∧ g.slots = f.slots ∧ g.code.length = f.code.length ∧ ∀ b : Nat, (a < i ∨ (a = i ∧ b < j)) → g.code[b]? = f.code[b]?
theorem Mix.row {l L : List Fn} {i m : Nat} {f : Fn} (h : Mix l L i m) (hf : l[i]? = some f) (hm : f.code.length ≤ m) : Mix l L (i + 1) 0 := by
  refine ⟨h.1, fun a f' hf' => ?_⟩
  obtain ⟨g, h1, h2, h3, h4, h5, h6⟩ := h.2 a f' hf'
  refine ⟨g, h1, h2, h3, h4, h5, fun b hb => ?_⟩
  rcases hb with hb | hb
  · by_cases e : a = i
    · subst e
      rw [hf] at hf'
      obtain rfl := Option.some.inj hf'
      by_cases hbl : b < m
      · exact h6 b (.inr ⟨rfl, hbl⟩)
      · rw [List.getElem?_eq_none (by omega), List.getElem?_eq_none (by omega)]
    · exact h6 b (.inl (by omega))
  · omega
theorem Mix.step {l L : List Fn} {i j : Nat} {f g : Fn} {x : Ins} (h : Mix l L i j) (hf : l[i]? = some f) (hg : L[i]? = some g) (hx : f.code[j]? = some x) : Mix l (L.set i { g with code := g.code.set j x }) i (j + 1) := by
  have hi := (List.getElem?_eq_some_iff.1 hg).1
  have hj := (List.getElem?_eq_some_iff.1 hx).1
  refine ⟨by rw [List.length_set]; exact h.1, fun a f' hf' => ?_⟩
  obtain ⟨g', h1, h2, h3, h4, h5, h6⟩ := h.2 a f' hf'
  by_cases e : a = i
  · subst e
    rw [hg] at h1
    obtain rfl := Option.some.inj h1
    rw [hf] at hf'
    obtain rfl := Option.some.inj hf'
    refine ⟨_, List.getElem?_set_self hi, h2, h3, h4, by simpa using h5, fun b hb => ?_⟩
    rcases hb with hb | hb
    · omega
    · by_cases eb : b = j
      · subst eb
        simp only
        rw [List.getElem?_set_self (by omega), hx]
      · simp only
        rw [List.getElem?_set_ne (Ne.symm eb)]
        exact h6 b (.inr ⟨rfl, by omega⟩)
  · refine ⟨g', by rw [List.getElem?_set_ne (Ne.symm e)]; exact h1, h2, h3, h4, h5, fun b hb => ?_⟩
    rcases hb with hb | hb
    · exact h6 b (.inl hb)
    · omega
theorem Mix.all {l L : List Fn} (h : Mix l L l.length 0) : L = l := by
  apply List.ext_getElem?
  intro a
  by_cases ha : a < l.length
  · obtain ⟨g, h1, h2, h3, h4, h5, h6⟩ := h.2 a l[a] (by simp)
    rw [h1, List.getElem?_eq_getElem ha]
    congr 1
    obtain ⟨gp, gr, gs, gc⟩ := g
    generalize l[a] = f at *
    obtain ⟨fp, fr, fs, fc⟩ := f
    simp only at h2 h3 h4 h6
    subst h2 h3 h4
    congr 1
    apply List.ext_getElem?
    intro b
    exact h6 b (.inl ha)
  · rw [List.getElem?_eq_none (by have := h.1; omega), List.getElem?_eq_none (by omega)]
theorem Mix.turned (l : List Fn) : Mix l (l.map turnF) 0 0 := by
  refine ⟨by simp, fun a f hf => ⟨turnF f, by simp [hf], rfl, rfl, rfl, turn_len f, fun b hb => by omega⟩⟩
theorem odd_set (l : List Ins) (j : Nat) (x : Ins) (hj : j < l.length) : oddL (l.set j x) = (oddL l).set j x := by unfold oddL; rw [List.set_append_left _ _ hj]
theorem IsGift.put {base : Nat} {w : World} {G : Nat} {cv : Value} {cs : List Nat} {L : List Fn} {R : List (List Value)} (h : IsGift base w G cv cs L R) {i j c : Nat} {g : Fn} (hg : L[i]? = some g) (hc : cs[i]? = some c) (hj : j < g.code.length) (x : Ins) :
    IsGift base (set5 w c (j * 5) x) G cv cs (L.set i { g with code := g.code.set j x }) R := by
  have hk := set5_keeps w c (j * 5) x
  have hi := (List.getElem?_eq_some_iff.1 hg).1
  have hC := h.code i g c hg hc
  have ez : ∀ {γ : Type} (F : Fn → Nat → γ), (∀ c', F { g with code := g.code.set j x } c' = F g c') → List.zipWith F (L.set i { g with code := g.code.set j x }) cs = List.zipWith F L cs := by
    intro γ F hF
    apply List.ext_getElem?
    intro a
    rw [List.getElem?_zipWith, List.getElem?_zipWith]
    by_cases e : a = i
    · subst e
      rw [List.getElem?_set_self hi, hg, hc]
      simp [hF]
    · rw [List.getElem?_set_ne (Ne.symm e)]
  refine ⟨?_, ?_, ?_, by rw [List.length_set]; exact h.len, h.nodup, h.lowG, h.lowC, h.lowV⟩
  · rw [ez gfCells (fun c' => by simp [gfCells])]
    exact h.fb.kept hk (blk_ne h.fb.blk hC (by decide))
  · rw [ez gcV (fun c' => by simp [gcV]), List.length_set]
    exact hk.own h.codes (fun q e r => absurd (own_type h.codes e (r ▸ hC)) (by decide))
  · intro a f' c' hf' hc'
    by_cases e : a = i
    · subst e
      rw [List.getElem?_set_self hi] at hf'
      obtain rfl := Option.some.inj hf'
      rw [hc] at hc'
      obtain rfl := Option.some.inj hc'
      simp only
      rw [odd_set _ _ _ hj]
      exact hC.set j x (by unfold oddL; simp; omega)
    · rw [List.getElem?_set_ne (Ne.symm e)] at hf'
      have hne : c' ≠ c := by
        rintro rfl
        have h1 := (List.getElem?_eq_some_iff.1 hc').1
        have h2 := (List.getElem?_eq_some_iff.1 hc).1
        have e1 := (List.getElem?_eq_some_iff.1 hc').2
        have e2 := (List.getElem?_eq_some_iff.1 hc).2
        exact e ((List.getElem_inj h.nodup).1 (e1.trans e2.symm))
      exact (h.code a f' c' hf' hc').kept hk hne
set_option maxHeartbeats 2000000 in
theorem lay_any (a : Option Addr) (n c cq : Nat) (l L : List Fn) (w0 w : World) (base G : Nat) (cv : Value) (cs : List Nat) (R : List (List Value)) (hS : SeenF w0 a n l) (hk0 : Keeps None w0 w) (hb : w0.heap.size ≤ base) (hg : IsGift base w G cv cs L R) (hM : Mix l L 0 0) (hr : n * 48 ≤ 140737488351232) (hrc : ∀ f ∈ l, f.code.length * 40 ≤ 140737488351232) :
    Calls Tryd.prog 47 #[.agg #[.slice (some ⟨G, 0, none⟩) n cq], .agg #[.slice a n c]] w fun e w' => e = .returned (.tuple #[]) ∧ IsGift base w' G cv cs l R ∧ Keeps (fun k => k ∈ cs) w w' := by
  have hn := hS.len
  obtain ⟨B, hB⟩ : ∃ B, B = w.heap.size := ⟨_, rfl⟩
  obtain ⟨p1, p2⟩ := two_boxes w #[.slice (some ⟨G, 0, none⟩) n cq] #[.slice a n c] 24 24
  have hk2 := keeps2 w (.cells #[.slice (some ⟨G, 0, none⟩) n cq] 24) (.cells #[.slice a n c] 24)
  obtain ⟨w2, hw2⟩ : ∃ w2, w2 = (w.alloc (.cells #[.slice (some ⟨G, 0, none⟩) n cq] 24)).alloc (.cells #[.slice a n c] 24) := ⟨_, rfl⟩
  rw [← hw2] at p1 p2 hk2
  rw [← hB] at p1 p2
  have H0 : Hid (IsGift base w2 G cv cs L R ∧ w2.heap[B]? = some (.cells #[.slice (some ⟨G, 0, none⟩) n cq] 24 (0, 0)) ∧ w2.heap[B + 1]? = some (.cells #[.slice a n c] 24 (0, 0)) ∧ Keeps (fun k => k ∈ cs) w w2 ∧ Mix l L 0 0) := ⟨hg.more hk2, p1, p2, hk2.mono (fun _ f _ => f.elim), hM⟩
  have HC : Hid (SeenF w0 a n l ∧ n = l.length ∧ (∀ f ∈ l, f.code.length * 40 ≤ 140737488351232) ∧ Keeps None w0 w ∧ w0.heap.size ≤ base ∧ ∀ c ∈ cs, base ≤ c) := ⟨hS, hn, hrc, hk0, hb, hg.lowC⟩
  have hnb : (n : Int) ≤ 4611686018427387904 := by omega
  clear hS hn hrc hk0 hb hg p1 p2 hk2 hM
  go_enter Tryd.func47, Tryd.ntmps47
  go_upto_region 1 with fail
  rw [← hw2, ← hB]
  clear hw2 hB
  go_wp2_with fail
  go_loopw [4] (fun s4 wr => ∃ (k : Nat) (L' : List Fn), k ≤ n ∧ s4 = .int .i64 k ∧ IsGift base wr G cv cs L' R ∧ wr.heap[B]? = some (.cells #[.slice (some ⟨G, 0, none⟩) n cq] 24 (0, 0)) ∧ wr.heap[B + 1]? = some (.cells #[.slice a n c] 24 (0, 0)) ∧ Keeps (fun k => k ∈ cs) w wr ∧ Mix l L' k 0) (fun i _ => n - (intOf i).toNat)
  case atStart => exact ⟨0, L, Nat.zero_le _, rfl, H0.out⟩
  case round =>
    obtain ⟨k, L1, hk, rfl, hg, hp1, hp2, hkw, hMx⟩ := hrel
    have d1 : wr.cell? ⟨B + 1, 0, none⟩ = some (.slice a n c) := (cell_of_heap hp2 0).trans rfl
    by_cases hkn : k < n
    · have hk0 : Keeps None w0 wr := HC.out.2.2.2.1.trans hkw (fun i e hi => by have := HC.out.2.2.2.2.2 i e; have := HC.out.2.2.2.2.1; omega)
      obtain ⟨b, off, f, ca, cc, rfl, hf, hat⟩ := HC.out.1.at hkn
      have i1 : (k : Int) < (n : Int) := by omega
      obtain ⟨m, hm⟩ : ∃ m, m = f.code.length := ⟨_, rfl⟩
      have hrf := HC.out.2.2.1 f (List.mem_of_getElem? hf)
      rw [← hm] at hrf
      have HK : Hid (IsGift base wr G cv cs L1 R ∧ wr.heap[B]? = some (.cells #[.slice (some ⟨G, 0, none⟩) n cq] 24 (0, 0)) ∧ wr.heap[B + 1]? = some (.cells #[.slice (some ⟨b, off, none⟩) n c] 24 (0, 0)) ∧ Keeps (fun k => k ∈ cs) w wr ∧ Mix l L1 k 0) := ⟨hg, hp1, hp2, hkw, hMx⟩
      have HAT : Hid (FnAt w0 b (off + k * 4) f ca cc ∧ l[k]? = some f ∧ m = f.code.length) := ⟨hat, hf, hm⟩
      have hmb : (m : Int) ≤ 4611686018427387904 := by omega
      clear hg hp1 hp2 hkw hMx hat hf hm hk0 H0
      go_wp2_with fail
      clear d1
      go_loopw [5] (fun s5 wr => ∃ (j : Nat) (L' : List Fn), j ≤ m ∧ s5 = .int .i64 j ∧ IsGift base wr G cv cs L' R ∧ wr.heap[B]? = some (.cells #[.slice (some ⟨G, 0, none⟩) n cq] 24 (0, 0)) ∧ wr.heap[B + 1]? = some (.cells #[.slice (some ⟨b, off, none⟩) n c] 24 (0, 0)) ∧ Keeps (fun k => k ∈ cs) w wr ∧ Mix l L' k j) (fun i _ => m - (intOf i).toNat)
      case atStart => exact ⟨0, L1, Nat.zero_le _, rfl, HK.out⟩
      case round =>
        obtain ⟨j, L2, hj, rfl, hg, hp1, hp2, hkw, hMx⟩ := hrel
        have hk0 : Keeps None w0 wr := HC.out.2.2.2.1.trans hkw (fun i e hi => by have := HC.out.2.2.2.2.2 i e; have := HC.out.2.2.2.2.1; omega)
        have d0 : wr.cell? ⟨B, 0, none⟩ = some (.slice (some ⟨G, 0, none⟩) n cq) := (cell_of_heap hp1 0).trans rfl
        have d1 : wr.cell? ⟨B + 1, 0, none⟩ = some (.slice (some ⟨b, off, none⟩) n c) := (cell_of_heap hp2 0).trans rfl
        have hat := HAT.out.1.more hk0
        have y3 := hat.code
        rw [← HAT.out.2.2] at y3
        by_cases hjm : j < m
        · obtain ⟨cb, co, x, rfl, hx, hins⟩ := hat.seen.at (k := j) (by rw [← HAT.out.2.2]; exact hjm)
          obtain ⟨x0, x1, x2, x3, x4⟩ := hins
          obtain ⟨g, hgL, _, _, _, hgl, _⟩ := hMx.2 k f HAT.out.2.1
          obtain ⟨cblk, hcs, hfa, hC⟩ := hg.fn hgL
          have g3 := hfa.code
          rw [hgl, ← HAT.out.2.2] at g3
          obtain ⟨z, hz, hfr⟩ := hC.cells (k := j) (by unfold oddL; simp; rw [hgl, ← HAT.out.2.2]; omega)
          obtain ⟨u0, u1, u2, u3, u4⟩ := hz
          have t0 := hfr (j * 5)
          have t1 := hfr (j * 5 + 1)
          have t2 := hfr (j * 5 + 2)
          have t3 := hfr (j * 5 + 3)
          have t4 := hfr (j * 5 + 4)
          have hput := hg.put hgL hcs (by rw [hgl, ← HAT.out.2.2]; exact hjm) x
          have hk5 := set5_keeps wr cblk (j * 5) x
          have hmem : cblk ∈ cs := List.mem_of_getElem? hcs
          have hMx2 := hMx.step HAT.out.2.1 hgL hx
          have HQ : Hid (IsGift base (set5 wr cblk (j * 5) x) G cv cs (L2.set k { g with code := g.code.set j x }) R ∧ (set5 wr cblk (j * 5) x).heap[B]? = some (.cells #[.slice (some ⟨G, 0, none⟩) n cq] 24 (0, 0)) ∧ (set5 wr cblk (j * 5) x).heap[B + 1]? = some (.cells #[.slice (some ⟨b, off, none⟩) n c] 24 (0, 0)) ∧ Keeps (fun k => k ∈ cs) w (set5 wr cblk (j * 5) x) ∧ Mix l (L2.set k { g with code := g.code.set j x }) k (j + 1)) :=
            ⟨hput, blk_kept hp1 hk5 (blk_ne hp1 hC (by decide)), blk_kept hp2 hk5 (blk_ne hp2 hC (by decide)), hkw.trans hk5 (fun i e hi => by subst e; exact hmem), hMx2⟩
          have i2 : (j : Int) < (m : Int) := by omega
          clear hg hp1 hp2 hkw hMx hat hx hgL hgl hcs hfa hC hfr hput hk5 hmem hMx2 hk0
          go_wp2_with fail
          go_region
          all_goals go_wp2_with fail
          all_goals
            have hd := fun wx => Keeps.drew None wx
            exact ⟨⟨j + 1, _, by omega, by simp, HQ.out.1.more (hd _), blk_kept HQ.out.2.1 (hd _) (fun f => f), blk_kept HQ.out.2.2.1 (hd _) (fun f => f), HQ.out.2.2.2.1.andDrew, HQ.out.2.2.2.2⟩, by simp [intOf]; omega⟩
        · have i2 : ¬ (j : Int) < (m : Int) := by omega
          have HQ : Hid (IsGift base wr G cv cs L2 R ∧ wr.heap[B]? = some (.cells #[.slice (some ⟨G, 0, none⟩) n cq] 24 (0, 0)) ∧ wr.heap[B + 1]? = some (.cells #[.slice (some ⟨b, off, none⟩) n c] 24 (0, 0)) ∧ Keeps (fun k => k ∈ cs) w wr ∧ Mix l L2 (k + 1) 0) := ⟨hg, hp1, hp2, hkw, hMx.row HAT.out.2.1 (by have := HAT.out.2.2; omega)⟩
          have yy : wr.cell? ⟨b, off + k * 4 + 3, none⟩ = some (.slice ca m cc) := y3
          clear hg hp1 hp2 hkw hMx hat hk0
          go_wp2_with fail
          exact ⟨⟨k + 1, L2, by omega, by simp, HQ.out⟩, by simp [intOf]; omega⟩
    · have hkn2 : k = n := by omega
      subst hkn2
      have i1 : ¬ (k : Int) < (k : Int) := by omega
      have hL : L1 = l := (by have := HC.out.2.1; rw [this] at hMx; exact hMx.all)
      subst hL
      have HQ : Hid (IsGift base wr G cv cs L1 R ∧ Keeps (fun k => k ∈ cs) w wr) := ⟨hg, hkw⟩
      clear hg hp1 hp2 hkw hMx H0
      go_wp2_with fail
      go_end0
      exact ⟨rfl, HQ.out⟩
end Go.Proofs.YtklepknkdkponaaDoor
