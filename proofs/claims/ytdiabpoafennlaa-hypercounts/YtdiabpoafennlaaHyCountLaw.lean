import Derived.Test.YtdiabpoafennlaaHyMade
import Derived.Test.YtdiabpoafennlaaHyPickLaw
/-! The walk of HyperCounts. -/
namespace Go.Proofs.Ytdiabpoafennlaa
set_option linter.unusedVariables false
set_option maxRecDepth 20000
set_option linter.unusedSimpArgs false
open Go.RowKit Go.HeapKit

/-- Which views are gone behind the first k merges. -/
def goneL (mg : List (Nat × Nat × Nat)) (k V : Nat) : List Bool := (List.range V).map (fun v => decide (v ∈ (mg.take k).map (·.2.2)))
theorem goneL_len (mg : List (Nat × Nat × Nat)) (k V : Nat) : (goneL mg k V).length = V := by simp [goneL]
theorem goneL_at {mg : List (Nat × Nat × Nat)} {k V v : Nat} (hv : v < V) : (goneL mg k V)[v]? = some (decide (v ∈ (mg.take k).map (·.2.2))) := by simp [goneL, hv]
theorem goneL_step {mg : List (Nat × Nat × Nat)} {k V : Nat} {x : Nat × Nat × Nat} (hx : mg[k]? = some x) : (goneL mg k V).set x.2.2 true = goneL mg (k + 1) V := by
  apply List.ext_getElem?
  intro i
  rw [List.getElem?_set]
  have ht : mg.take (k + 1) = mg.take k ++ [x] := by rw [List.take_add_one, hx]; rfl
  by_cases hi : i < V
  · rw [goneL_at hi, goneL_at hi, ht, List.map_append, goneL_len]
    by_cases e : x.2.2 = i
    · subst e; simp [hi]
    · rw [if_neg e]
      congr 1
      simp only [List.mem_append, List.map_cons, List.map_nil, List.mem_singleton]
      simp [Ne.symm e]
  · have h1 : (goneL mg (k + 1) V)[i]? = none := List.getElem?_eq_none (by rw [goneL_len]; omega)
    have h2 : (goneL mg k V)[i]? = none := List.getElem?_eq_none (by rw [goneL_len]; omega)
    rw [h1, h2, goneL_len]
    split
    · rw [if_neg (by omega)]
    · rfl
theorem made_bools (n : Nat) : madeCells (Value.bool false).cells (n * 1) = (bv' (List.replicate n false)).toArray := by
  have hc : (Value.bool false).cells = #[.bool false] := by kernel_rfl
  rw [hc]
  apply Array.ext
  · rw [size_madeCells]; simp [bv']
  · intro i h1 h2
    have hi : i < n := by simpa [bv'] using h2
    simp [madeCells, bv', Nat.mod_one]
theorem make_bools (n : Nat) (w : World) (hn : n ≤ 100000) : ∃ w', (Instr.makeSlice 23 (.int .i64 n) (.int .i64 n)).run Try.prog w = .ok (.slice (some ⟨w.heap.size, 0, none⟩) n n) w' ∧ w'.ownsRow w.heap.size 4 1 (.slice (some ⟨w.heap.size, 0, none⟩) n n) n (bv' (List.replicate n false)) ∧ Keeps None w w' := by
  obtain ⟨i0, hi, hz0, hz1, hz2⟩ := info_parts Try.infoBool
  obtain ⟨M, hM, hs, hr⟩ := run_make_block (P := Try.prog) (w := w) 23 4 i0 _ 1 1 Try.underlying23 hi hz0 hz1 hz2 n (by omega) (by omega)
  rw [made_bools] at hM
  refine ⟨_, hr, ⟨by rw [bv_len]; simp, .inr ⟨_, _, M, rfl, Nat.le_refl _, heap_alloc_new _ _, Nat.le_refl _, ?_, ?_, ?_⟩⟩, Keeps.alloc None w _⟩
  all_goals first
    | (unfold maxLen; omega)
    | (rw [hM]; simp [bv']; done)
    | (rw [hM]; exact List.take_of_length_le (by rw [bv_len]; simp))
theorem goneL_zero (mg : List (Nat × Nat × Nat)) (V : Nat) : List.replicate V false = goneL mg 0 V := by
  apply List.ext_getElem?
  intro i
  by_cases h : i < V
  · rw [goneL_at h, List.getElem?_replicate, if_pos h]; simp
  · rw [List.getElem?_eq_none (by simp; omega), List.getElem?_eq_none (by rw [goneL_len]; omega)]
theorem fin_counts {l : List Dd} {st : List Bool} {pk : List Int} (h : chkL l 0 0 = none) : MgOk (okAt (l.map dp)) [0] (finPS l st pk).vs.length (l.map dp).length (finPS l st pk).mg ∧ (finPS l st pk).vs.length = 1 + madeL st (l.map dp) 0 [] :=
  ⟨counts_all st (l.map dp) pk (kinds_of h), made_all listK st (l.map dp) pk (kinds_of h)⟩
theorem okAt_deed {l : List Dd} {i : Nat} (h : okAt (l.map dp) i) (hi : i < l.length) : ∃ x, l[i]? = some x ∧ (x.k = 2 ∨ x.k = 1) := by
  obtain ⟨d, h1, h2⟩ := h (by simpa using hi)
  rw [List.getElem?_map] at h1
  cases hx : l[i]? with
  | none => rw [hx] at h1; cases h1
  | some x =>
    rw [hx] at h1
    obtain rfl := Option.some.inj h1
    exact ⟨x, rfl, h2⟩
theorem made_le {l : List Dd} (h : l.length ≤ 4096) (st : List Bool) : madeL st (l.map dp) 0 [] ≤ 4096 := by
  have : ∀ (ds : List (Int × Int)) (n : Nat) (op : List Nat), madeL st ds n op ≤ ds.length := by
    intro ds
    induction ds with
    | nil => intro n op; exact Nat.le_refl _
    | cons d ds ih =>
      intro n op
      rw [madeL_cons, List.length_cons]
      split
      · exact Nat.le_succ_of_le (ih _ _)
      · split
        · split
          · exact Nat.le_succ_of_le (ih _ _)
          · have := ih n (by assumption)
            split <;> omega
        · exact Nat.le_succ_of_le (ih _ _)
  have := this (l.map dp) 0 []
  rw [List.length_map] at this
  omega
theorem cell_lt {w : World} {b o : Nat} {v : Value} (h : w.cell? ⟨b, o, none⟩ = some v) : b < w.heap.size := by
  cases hb : w.heap[b]? with
  | none => simp [World.cell?, hb] at h
  | some o => exact (Array.getElem?_eq_some_iff.1 hb).1
theorem seen_far {w wn : World} {p0 p1 M D n0 c0 n1 c1 n2 c2 mc : Nat} {a0 a1 a2 ma : Option Addr} {l : List Dd} {st : List Bool} {mg : List (Nat × Nat × Nat)}
    (h : (wn.cell? ⟨p1, 1, none⟩ = some (.int .i64 M) ∧ wn.cell? ⟨p1, 2, none⟩ = some (.slice ma D mc) ∧ wn.cell? ⟨p0, 0, none⟩ = some (.slice a0 n0 c0) ∧ wn.cell? ⟨p0, 1, none⟩ = some (.slice a1 n1 c1) ∧ wn.cell? ⟨p0, 2, none⟩ = some (.slice a2 n2 c2)) ∧ (Seen wn a0 n0 l ∧ SeenV wn a1 n1 (bv' st)) ∧ SeenM wn ma mg ∧ Keeps None w wn) :
    ∀ wx, Keeps (fun i => wn.heap.size ≤ i) wn wx → (wx.cell? ⟨p1, 1, none⟩ = some (.int .i64 M) ∧ wx.cell? ⟨p1, 2, none⟩ = some (.slice ma D mc) ∧ wx.cell? ⟨p0, 0, none⟩ = some (.slice a0 n0 c0) ∧ wx.cell? ⟨p0, 1, none⟩ = some (.slice a1 n1 c1) ∧ wx.cell? ⟨p0, 2, none⟩ = some (.slice a2 n2 c2)) ∧ Seen wx a0 n0 l ∧ SeenM wx ma mg := by
  intro wx hx
  obtain ⟨⟨h1, h2, h3, h4, h5⟩, ⟨h6, -⟩, h7, -⟩ := h
  have k : ∀ {b o : Nat} {v : Value}, wn.cell? ⟨b, o, none⟩ = some v → wx.cell? ⟨b, o, none⟩ = some v := fun hc => hx.cell hc (fun e => by have h1 := cell_lt hc; have h2 : wn.heap.size ≤ _ := e; simp only at h2; omega)
  exact ⟨⟨k h1, k h2, k h3, k h4, k h5⟩, h6.below hx (Nat.le_refl _), fun i y hy => by
    obtain ⟨g, e, q0, q1, q2⟩ := h7 i y hy
    exact ⟨g, e, k q0, k q1, k q2⟩⟩
theorem pair_take {mg : List (Nat × Nat × Nat)} {k : Nat} {x y : Nat × Nat × Nat} (hp : mg.Pairwise (fun x y => x.2.2 ≠ y.2.1 ∧ x.2.2 ≠ y.2.2 ∧ x.1 ≤ y.1)) (hx : mg[k]? = some x) (hy : y ∈ mg.take k) : y.2.2 ≠ x.2.1 ∧ y.2.2 ≠ x.2.2 := by
  obtain ⟨i, hi, rfl⟩ := List.mem_iff_getElem.1 hy
  obtain ⟨hk, rfl⟩ := List.getElem?_eq_some_iff.1 hx
  rw [List.length_take] at hi
  have := List.pairwise_iff_getElem.1 hp i k (by omega) hk (by omega)
  rw [List.getElem_take]
  exact ⟨this.1, this.2.1⟩
theorem pair_later {mg : List (Nat × Nat × Nat)} {k j : Nat} {x y : Nat × Nat × Nat} (hp : mg.Pairwise (fun x y => x.2.2 ≠ y.2.1 ∧ x.2.2 ≠ y.2.2 ∧ x.1 ≤ y.1)) (hx : mg[k]? = some x) (hy : mg[j]? = some y) (hj : k + 1 ≤ j) : x.1 ≤ y.1 := by
  obtain ⟨hk, rfl⟩ := List.getElem?_eq_some_iff.1 hx
  obtain ⟨hj2, rfl⟩ := List.getElem?_eq_some_iff.1 hy
  exact (List.pairwise_iff_getElem.1 hp k j hk hj2 (by omega)).2.2
set_option maxHeartbeats 6400000 in
theorem hyperCounts_walk (a0 a1 a2 : Option Addr) (n0 c0 n1 c1 n2 c2 : Nat) (l : List Dd) (st : List Bool) (pk : List Int) (w : World) (h0 : Seen w a0 n0 l) (h1 : SeenV w a1 n1 (bv' st)) (h2 : SeenV w a2 n2 (iv pk)) (hc : n2 ≤ c2) :
    Calls Try.prog 4 #[.agg #[.slice a0 n0 c0, .slice a1 n1 c1, .slice a2 n2 c2]] w fun e w' => e = .returned (.bool true) ∧ Below w.heap.size w w' := by
  have HS : Hid (Seen w a0 n0 l ∧ SeenV w a1 n1 (bv' st) ∧ SeenV w a2 n2 (iv pk) ∧ n2 ≤ c2) := ⟨h0, h1, h2, hc⟩
  have HL : Hid (n0 = l.length ∧ n1 = st.length ∧ n2 = pk.length) := ⟨h0.len, by have := h1.len; rwa [bv_len] at this, by have := h2.len; rwa [iv_len] at this⟩
  clear h0 h1 h2 hc
  obtain ⟨p0, hp0⟩ : ∃ p0, p0 = w.heap.size := ⟨_, rfl⟩
  have hb0 := blk_new w (.cells #[.slice a0 n0 c0, .slice a1 n1 c1, .slice a2 n2 c2] 26) p0 hp0.symm
  have hkb := (Keeps.alloc None w (.cells #[.slice a0 n0 c0, .slice a1 n1 c1, .slice a2 n2 c2] 26))
  go_enter Try.func4, Try.ntmps4
  go_upto_region 1 with fail
  rw [← hp0]
  clear hp0
  generalize (w.alloc (.cells #[.slice a0 n0 c0, .slice a1 n1 c1, .slice a2 n2 c2] 26)) = wb at *
  have HY : Hid (∀ wx, Keeps None wb wx → (Seen wx a0 n0 l ∧ SeenV wx a1 n1 (bv' st) ∧ SeenV wx a2 n2 (iv pk)) ∧ wx.cell? ⟨p0, 0, none⟩ = some (.slice a0 n0 c0) ∧ wx.cell? ⟨p0, 1, none⟩ = some (.slice a1 n1 c1) ∧ wx.cell? ⟨p0, 2, none⟩ = some (.slice a2 n2 c2)) := fun wx hx => ⟨⟨(HS.out.1.more hkb).more hx, (HS.out.2.1.more hkb).more hx, (HS.out.2.2.1.more hkb).more hx⟩, blk_cell (blk_kept hb0 hx (fun f => f)) 0, blk_cell (blk_kept hb0 hx (fun f => f)) 1, blk_cell (blk_kept hb0 hx (fun f => f)) 2⟩
  have HK : Hid (Keeps None w wb) := hkb
  clear hb0 hkb
  obtain ⟨⟨s0, s1, s2⟩, y0, y1, y2⟩ := HY.out wb (Keeps.refl _ _)
  go_wp2_with fail
  refine (right_ok a0 a1 a2 n0 c0 n1 c1 n2 c2 l st pk wb s0 HL.out.2.1 HL.out.2.2).mono ?_
  clear y0 y1 y2 s0 s1 s2
  rintro e w1 ⟨rfl, hk1⟩
  have HK1 : Hid (Keeps None wb w1) := hk1
  clear hk1
  obtain ⟨⟨s0, s1, s2⟩, y0, y1, y2⟩ := HY.out w1 HK1.out
  by_cases hE : refE l st pk = 0
  · rw [right_iff.1 hE]
    go_wp2_with fail
    refine (Play_told a0 n0 c0 l a1 n1 c1 st a2 n2 c2 pk w1 s0 s1 s2 HS.out.2.2.2).mono ?_
    clear y0 y1 y2 s0 s1 s2
    rintro e w2 ⟨fa, fc, ma, mc, la, lc, rfl, -, -, hm2, hk2⟩
    obtain ⟨hcnt, hmade⟩ := fin_counts (st := st) (pk := pk) (refE_ok hE).2.2.2
    have hml := made_le (refE_ok hE).1 st
    rw [hE]
    obtain ⟨F, hF⟩ : ∃ F, F = (finT l st pk).length := ⟨_, rfl⟩
    obtain ⟨M, hM⟩ : ∃ M, M = madeT l st pk := ⟨_, rfl⟩
    obtain ⟨mg, hG⟩ : ∃ G, G = mgT l st pk := ⟨_, rfl⟩
    obtain ⟨L, hL⟩ : ∃ L, L = (lkT l st pk).length := ⟨_, rfl⟩
    rw [← hG] at hm2
    rw [← hF, ← hM, ← hG, ← hL]
    have hM2 : M = (finPS l st pk).vs.length := by rw [hM]; unfold madeT; rw [if_pos hE]
    have hG2 : mg = (finPS l st pk).mg := by rw [hG]; unfold mgT; rw [if_pos hE]
    rw [← hM2, ← hG2] at hcnt
    rw [← hM2] at hmade
    obtain ⟨D, hD⟩ : ∃ D, D = mg.length := ⟨_, rfl⟩
    have hDM : D + 1 = M := by have := hcnt.cnt; simp at this; omega
    have hbv := blk_new w2 (.cells #[.slice fa F fc, .int .i64 M, .slice ma mg.length mc, .slice la L lc] 39) w2.heap.size rfl
    have hkv := Keeps.alloc None w2 (.cells #[.slice fa F fc, .int .i64 M, .slice ma mg.length mc, .slice la L lc] 39)
    obtain ⟨p1, hp1⟩ : ∃ p1, p1 = w2.heap.size := ⟨_, rfl⟩
    rw [← hD]
    rw [← hD] at hbv hkv
    have HC : Hid (MgOk (okAt (l.map dp)) [0] M (l.map dp).length mg ∧ M = 1 + madeL st (l.map dp) 0 [] ∧ M ≤ 4097 ∧ D + 1 = M ∧ D = mg.length ∧ l.length ≤ 4096) := ⟨hcnt, hmade, by omega, hDM, hD, (refE_ok hE).1⟩
    clear hF hM hG hL hM2 hG2 hcnt hmade hml hE hD
    go_upto_region 5 with fail
    rw [← hp1] at hbv ⊢
    clear hp1
    generalize (w2.alloc (.cells #[.slice fa F fc, .int .i64 M, .slice ma D mc, .slice la L lc] 39)) = w3 at *
    have HZ : Hid (∀ wx, Keeps None w3 wx → (wx.cell? ⟨p1, 1, none⟩ = some (.int .i64 M) ∧ wx.cell? ⟨p1, 2, none⟩ = some (.slice ma D mc) ∧ wx.cell? ⟨p0, 0, none⟩ = some (.slice a0 n0 c0) ∧ wx.cell? ⟨p0, 1, none⟩ = some (.slice a1 n1 c1) ∧ wx.cell? ⟨p0, 2, none⟩ = some (.slice a2 n2 c2)) ∧ (Seen wx a0 n0 l ∧ SeenV wx a1 n1 (bv' st)) ∧ SeenM wx ma mg ∧ Keeps None w wx) := fun wx hx => by
      have hkk := ((HK1.out.trans hk2 (fun _ f _ => f)).trans hkv (fun _ f _ => f)).trans hx (fun _ f _ => f)
      obtain ⟨⟨s0, s1, s2⟩, y0, y1, y2⟩ := HY.out wx hkk
      exact ⟨⟨blk_cell (blk_kept hbv hx (fun f => f)) 1, blk_cell (blk_kept hbv hx (fun f => f)) 2, y0, y1, y2⟩, ⟨s0, s1⟩, (hm2.more hkv).more hx, HK.out.trans hkk (fun _ f _ => f)⟩
    clear hk2 hkv hbv hm2
    have hkc : Keeps None w3 w3.drew := Keeps.drew None w3
    have hs := (HZ.out _ hkc).1
    have hwM : IntKind.i64.wrap ((M : Int) - 1) = (D : Int) := by rw [IntKind.wrap_i64]; have := HC.out.2.2.1; omega
    go_region_held3 (fun wx => wx.cell? ⟨p1, 1, none⟩ = some (.int .i64 M) ∧ wx.cell? ⟨p1, 2, none⟩ = some (.slice ma D mc) ∧ wx.cell? ⟨p0, 0, none⟩ = some (.slice a0 n0 c0) ∧ wx.cell? ⟨p0, 1, none⟩ = some (.slice a1 n1 c1) ∧ wx.cell? ⟨p0, 2, none⟩ = some (.slice a2 n2 c2)) (first | exact hs | go_keep) (first
      | (go_at_call 17; refine Calls.mono (made_ok a0 a1 a2 n0 c0 n1 c1 n2 c2 l st _ (HZ.out _ hkc).2.1.1 (HZ.out _ hkc).2.1.2 (by have := HC.out.2.2.2.2.2; have := HL.out.1; omega) M HC.out.2.1.symm) ?_; rintro _ wn ⟨rfl, hkn⟩; replace hkc := hkc.trans hkn (fun _ f _ => f); replace hs := (HZ.out _ hkc).1; clear hkn))
    all_goals
      have HZ2 := seen_far (HZ.out wn hkc)
      have HW : Hid (Keeps None w wn) := (HZ.out wn hkc).2.2.2
      obtain ⟨w6, hr6, ho6, hk6⟩ := make_bools M wn (by have := HC.out.2.2.1; omega)
      rw [goneL_zero mg M] at ho6
      obtain ⟨g7, hg7⟩ : ∃ g7, g7 = wn.heap.size := ⟨_, rfl⟩
      rw [← hg7] at ho6 hr6
      have H6 : Hid (w6.ownsRow g7 4 1 (.slice (some ⟨g7, 0, none⟩) M M) M (bv' (goneL mg 0 M)) ∧ Keeps None wn w6 ∧ g7 = wn.heap.size) := ⟨ho6, hk6, hg7⟩
      have HF : Hid _ := HZ2
      clear ho6 hk6 hg7 hkc hDM HZ HY HK HK1 HZ2
      go_wp2_with (at_make; refine wpList_make_run rfl (.tmp 55) (.tmp 55) 23 rfl rfl rfl hr6 ?_)
      clear hr6 hs
      go_loopw [8, 9, 10] (fun at_ i _ wr => ∃ k A : Nat, k ≤ D ∧ i = .int .i64 k ∧ at_ = .int .i64 A ∧ (∀ j x, k ≤ j → mg[j]? = some x → A ≤ x.1) ∧ wr.ownsRow g7 4 1 (.slice (some ⟨g7, 0, none⟩) M M) M (bv' (goneL mg k M)) ∧ Keeps (fun i => wn.heap.size ≤ i) wn wr) (fun _ i _ _ => D - (intOf i).toNat)
      case atStart => exact ⟨0, 0, Nat.zero_le _, rfl, rfl, fun _ _ _ _ => Nat.zero_le _, H6.out.1, H6.out.2.1.mono (fun _ f _ => f.elim)⟩
      case round =>
        obtain ⟨k, A, hk, rfl, rfl, hA, hrow, hkp⟩ := hrel
        obtain ⟨⟨z1, z2, z3, z4, z5⟩, hSd, hSm⟩ := HF.out wr hkp
        by_cases hkn : k < D
        · obtain ⟨x, hx⟩ : ∃ x, mg[k]? = some x := ⟨mg[k]'(by have := HC.out.2.2.2.2.1; omega), by simp⟩
          obtain ⟨gm, rfl, m0, m1, m2⟩ := hSm k x hx
          have hxm := List.mem_of_getElem? hx
          obtain ⟨e1, e2, e3, e4⟩ := HC.out.1.each x hxm
          have hpair := HC.out.1.pair
          have hgl : x.2.1 ∉ (mg.take k).map (·.2.2) := by
            intro hm
            obtain ⟨y, hy, hye⟩ := List.mem_map.1 hm
            have := pair_take hpair hx hy
            exact this.1 hye
          have hgr : x.2.2 ∉ (mg.take k).map (·.2.2) := by
            intro hm
            obtain ⟨y, hy, hye⟩ := List.mem_map.1 hm
            have := pair_take hpair hx hy
            exact this.2 hye
          obtain ⟨g8, e8, -, -, -, cl, hfr⟩ := own_cell1 hrow (k := x.2.1) (x := .bool false) (by rw [bv', List.getElem?_map, goneL_at (show x.2.1 < M by omega)]; simp only [Option.map_some]; rw [decide_eq_false hgl])
          obtain ⟨g9, e9, -, -, -, cr, -⟩ := own_cell1 hrow (k := x.2.2) (x := .bool false) (by rw [bv', List.getElem?_map, goneL_at e2]; simp only [Option.map_some]; rw [decide_eq_false hgr])
          injection e8 with e8
          injection e8 with e8
          subst e8
          injection e9 with e9
          injection e9 with e9
          subst e9
          have fr := hfr x.2.2
          have hAx := hA k x (Nat.le_refl _) hx
          have HN : Hid (((wr.alloc (.cells #[.int .i64 x.1, .int .i64 x.2.1, .int .i64 x.2.2] 43)).setCell ⟨g7, x.2.2, none⟩ (.bool true)).ownsRow g7 4 1 (.slice (some ⟨g7, 0, none⟩) M M) M (bv' (goneL mg (k + 1) M)) ∧ Keeps (fun i => wn.heap.size ≤ i) wn ((wr.alloc (.cells #[.int .i64 x.1, .int .i64 x.2.1, .int .i64 x.2.2] 43)).setCell ⟨g7, x.2.2, none⟩ (.bool true)) ∧ (∀ j y, k + 1 ≤ j → mg[j]? = some y → x.1 ≤ y.1)) := by
            refine ⟨?_, (hkp.andAlloc _).andSet (x := ⟨g7, _, none⟩) (.inr (by have := H6.out.2.2; show wn.heap.size ≤ g7; omega)) _, fun j y hj hy => pair_later hpair hx hy hj⟩
            have := row_set (hrow.alloc (.cells #[.int .i64 x.1, .int .i64 x.2.1, .int .i64 x.2.2] 43)) x.2.2 (.bool true)
            rw [← goneL_step hx]
            rwa [show (bv' (goneL mg k M)).set x.2.2 (.bool true) = bv' ((goneL mg k M).set x.2.2 true) by simp [bv']] at this
          have hln : l.length = n0 := HL.out.1.symm
          rw [List.length_map, hln] at e3
          obtain ⟨xa, xl, xr⟩ := x
          simp only at m0 m1 m2 e1 e2 e3 cl cr fr hAx HN e4
          have i1 : (k : Int) < (D : Int) := by omega
          have i2 : ¬ (xl : Int) < 0 := by omega
          have i3 : ¬ (xr : Int) ≤ (xl : Int) := by omega
          have i4 : ¬ (M : Int) ≤ (xr : Int) := by omega
          have i5 : ¬ (xa : Int) < (A : Int) := by omega
          have i6 : ¬ (n0 : Int) < (xa : Int) := by omega
          have i7 : (xl : Int) < (M : Int) := by omega
          have i8 : (xr : Int) < (M : Int) := by omega
          have i9 : (0 : Int) ≤ (xl : Int) := by omega
          have i10 : (0 : Int) ≤ (xr : Int) := by omega
          have HM5 : Hid (M ≤ 4097 ∧ D + 1 = M) := ⟨HC.out.2.2.1, HC.out.2.2.2.1⟩
          have hkA := Keeps.alloc None wr (.cells #[.int .i64 xa, .int .i64 xl, .int .i64 xr] 43)
          have z1A := hkA.cell z1 (fun f => f)
          have z2A := hkA.cell z2 (fun f => f)
          have z3A := hkA.cell z3 (fun f => f)
          have clA := hkA.cell cl (fun f => f)
          have crA := hkA.cell cr (fun f => f)
          have frA : (wr.alloc (.cells #[.int .i64 xa, .int .i64 xl, .int .i64 xr] 43)).frozen? ⟨g7, xr, none⟩ = false := by
            obtain ⟨q9, w9, -, -, -, -, hfr2⟩ := own_cell1 (hrow.alloc (.cells #[.int .i64 xa, .int .i64 xl, .int .i64 xr] 43)) (k := xr) (x := .bool false) (by rw [bv', List.getElem?_map, goneL_at e2]; simp only [Option.map_some]; rw [decide_eq_false hgr])
            injection w9 with w9
            injection w9 with w9
            subst w9
            exact hfr2 xr
          by_cases hxa : xa < n0
          · obtain ⟨y, hy, hyk⟩ := okAt_deed e4 (by omega)
            obtain ⟨b, off, y', rfl, hb9, hy', u0, u1⟩ := hSd.elem hxa
            rw [hy] at hy'
            obtain rfl := Option.some.inj hy'
            obtain ⟨yk, yl⟩ := y
            simp only at u0 hyk
            have u0A := hkA.cell u0 (fun f => f)
            have j1 : (xa : Int) < (n0 : Int) := by omega
            have j2 : (0 : Int) ≤ (xa : Int) := by omega
            have hD5 : D ≤ 5000 := by have := HM5.out; omega
            clear hA hrow hkp hSd hSm hx hxm hgl hgr hpair hfr e4 hy hy' hln hkA HF HW HC HS HL H6
            rcases hyk with rfl | rfl
            all_goals
              go_wp2
              go_roundw
              case rel => exact ⟨k + 1, xa, by omega, by go_num, rfl, HN.out.2.2, HN.out.1, HN.out.2.1⟩
              case measure => simp [intOf]; omega
          · have j1 : ¬ (xa : Int) < (n0 : Int) := by omega
            have hD5 : D ≤ 5000 := by have := HM5.out; omega
            clear hA hrow hkp hSd hSm hx hxm hgl hgr hpair hfr e4 hln hkA HF HW HC HS HL H6
            go_wp2
            go_roundw
            case rel => exact ⟨k + 1, xa, by omega, by go_num, rfl, HN.out.2.2, HN.out.1, HN.out.2.1⟩
            case measure => simp [intOf]; omega
        · have i1 : ¬ (k : Int) < (D : Int) := by omega
          have HE : Hid (Below w.heap.size w wr) := ((HW.out.mono (T := fun i => w.heap.size ≤ i) (fun _ f _ => f.elim)).trans hkp (fun i e _ => by have := HW.out.size; have h2 : wn.heap.size ≤ i := e; show w.heap.size ≤ i; omega)).below _ (Nat.le_refl _) (fun _ e => e)
          clear hA hrow hkp hSd hSm
          go_wp2
          go_ret
          exact ⟨rfl, HE.out⟩
  · rw [right_iff.2 hE]
    go_wp2_with fail
    refine (Play_told a0 n0 c0 l a1 n1 c1 st a2 n2 c2 pk w1 s0 s1 s2 HS.out.2.2.2).mono ?_
    clear y0 y1 y2 s0 s1 s2
    rintro e w2 ⟨fa, fc, ma, mc, la, lc, rfl, -, -, -, hk2⟩
    obtain ⟨E, hEE⟩ : ∃ E, E = refE l st pk := ⟨_, rfl⟩
    rw [← hEE]
    rw [← hEE] at hE
    have hE2 : (E != 0) = true := by simp [hE]
    have hkk := (HK.out.trans HK1.out (fun _ f _ => f)).trans hk2 (fun _ f _ => f)
    have HE : Hid (∀ o : Obj, Below w.heap.size w (w2.alloc o)) := fun o => (hkk.andAlloc o).below _ (Nat.le_refl _) (fun _ f => f.elim)
    clear hk2 hkk hEE
    go_wp2
    go_ret
    exact ⟨rfl, HE.out _⟩
end Go.Proofs.Ytdiabpoafennlaa
