import Derived.Test.YtdiabpoafennlaaPkAB
import Derived.Test.YtdiabpoafennlaaPkAV
import Derived.SizedLaws
/-! A game of a reducer among the arguments. -/
namespace Go.Proofs.Ytdiabpoafennlaa
set_option linter.unusedVariables false
set_option maxRecDepth 20000
open Go.ChangeShapes Go.WideShapes Go.ChangeAt Go.RowKit Go.HeapKit Go.Deep

def okG (x : Int) : Prop := -9223372036854775808 ≤ x ∧ x ≤ 9223372036854775807
theorem okG_of_wf {x : Int} (h : (Lit.int .i64 x).wf = true) : okG x := by
  have h1 : IntKind.i64.min = -9223372036854775808 := by decide
  have h2 : IntKind.i64.max = 9223372036854775807 := by decide
  simp [Lit.wf, h1, h2] at h
  unfold okG
  omega
section
variable {H : Type} {enc : TypeId × Value → H} {w : World} {base : Nat} {held : Bool}
theorem g_spot_none {w : World} {x : Addr} {v : Value} (h : w.cell? x = some v) : x.spot = none := by
  unfold World.cell? at h
  split at h
  · split at h
    · cases h
    · rename_i hs; simpa using hs
  · cases h
theorem g_spot_first {w : World} {base n : Nat} {x : Addr} {cs : List Value} (h : w.cells? base (x.add (0 * n)) n = some cs) (hn : 0 < n) : x.spot = none := by
  obtain ⟨_, hl, hc⟩ := World.cells?_some h
  have h0 := hc 0 hn
  rw [Nat.zero_mul, show (x.add 0).add 0 = x by unfold Addr.add; simp, List.getElem?_eq_getElem (by omega)] at h0
  exact g_spot_none h0
theorem g_choose {α : Type} (p : Nat → α → Prop) (n : Nat) (h : ∀ i, i < n → ∃ x, p i x) : ∃ l : List α, l.length = n ∧ ∀ i x, l[i]? = some x → p i x := by
  induction n with
  | zero => exact ⟨[], rfl, fun i x hx => by simp at hx⟩
  | succ n ih =>
    obtain ⟨l, hl, hp⟩ := ih (fun i hi => h i (by omega))
    obtain ⟨x, hx⟩ := h n (by omega)
    refine ⟨l ++ [x], by simp [hl], fun i y hy => ?_⟩
    by_cases hi : i < n
    · rw [List.getElem?_append_left (by omega)] at hy
      exact hp i y hy
    · have hlt := (List.getElem?_eq_some_iff.1 hy).1
      simp [hl] at hlt
      obtain rfl : i = n := by omega
      rw [List.getElem?_append_right (by omega), hl] at hy
      simp at hy
      subst hy
      exact hx
theorem g_lt {w : World} {b o : Nat} {v : Value} (h : w.cell? ⟨b, o, none⟩ = some v) : b < w.heap.size := by
  cases hb : w.heap[b]? with
  | none => simp [World.cell?, hb] at h
  | some o => exact (Array.getElem?_eq_some_iff.1 hb).1
def okD (x : Dd) : Prop := okG x.k ∧ okG x.loc
/-- Deeds that came in. -/
theorem open_deeds {fuel : Nat} {cs : List Value} {x : DataW H × List MemPlace} (h : DataW.trod enc Try.prog w base (fun _ => true) held fuel 22 cs = some x) :
    ∃ ca n cc l, cs = [.slice ca n cc] ∧ Seen w ca n l ∧ (∀ i ∈ l, okD i) ∧ n ≤ cc ∧ (n = 0 ∨ ∃ elems sp, x.1 = .slice elems sp ∧ n ≤ elems.length + sp.length) := by
  rcases open_slice Try.underlying22 h with ⟨rfl, _⟩ | ⟨a, len, cap, m, n, D, Pl, rfl, _, hl, hm, hmm, hx, hall⟩
  · exact ⟨none, 0, 0, [], rfl, ⟨rfl, fun h => by omega⟩, (fun i hi => by cases hi), Nat.le_refl _, .inl rfl⟩
  · simp at hmm
    subst hmm
    have hc : Try.prog.cellsOf 45 = 2 := by kernel_rfl
    rw [hc] at hall
    have hex : ∀ i, i < len → ∃ x : Dd, okD x ∧ ∃ b off, a = ⟨b, off, none⟩ ∧ b < w.heap.size ∧ w.cell? ⟨b, off + i * 2, none⟩ = some (.int .i64 x.k) ∧ w.cell? ⟨b, off + i * 2 + 1, none⟩ = some (.int .i64 x.loc) := by
      intro i hi
      obtain ⟨cs', h1, h2⟩ := hall i (by omega)
      obtain ⟨ns, hl, rfl, hw⟩ := struct_ints Try.underlying45 (by kernel_rfl) (by kernel_rfl) h2
      obtain ⟨_, hlen, hcell⟩ := World.cells?_some h1
      have hl5 : ns.length = 2 := hl
      match ns, hl5 with
      | [n0, n1], _ =>
        obtain ⟨b, off, sp⟩ := a
        have hsp : sp = none := by
          obtain ⟨cs0, hz, _⟩ := hall 0 (by omega)
          exact g_spot_first hz (by omega)
        subst hsp
        have hh : ∀ j, j < 2 → w.cell? ⟨b, off + i * 2 + j, none⟩ = ([n0, n1].map (Value.int .i64))[j]? := by
          intro j hj
          have := hcell j hj
          rw [addr_at, addr_at] at this
          exact this
        exact ⟨⟨n0, n1⟩, ⟨okG_of_wf (hw _ (by simp)), okG_of_wf (hw _ (by simp))⟩, b, off, rfl, g_lt (hh 0 (by omega)), hh 0 (by omega), hh 1 (by omega)⟩
    obtain ⟨l, hll, hp⟩ := g_choose _ len hex
    refine ⟨some a, len, m, l, rfl, ⟨hll.symm, fun h0 => ?_⟩, fun i hi => ?_, hl, ?_⟩
    · obtain ⟨_, b, off, rfl, hb, _⟩ := hp 0 (l[0]'(by omega)) (by simp)
      refine ⟨b, off, rfl, hb, fun k i hi => ?_⟩
      obtain ⟨_, b', off', e, _, hat⟩ := hp k i hi
      injection e with e1 e2
      subst e1 e2
      exact ⟨hat.1, hat.2⟩
    · obtain ⟨k, hk, rfl⟩ := List.mem_iff_getElem.1 hi
      exact (hp k _ (by simp)).1
    · exact .inr ⟨_, _, congrArg Prod.fst hx, by simp⟩
/-- One-cell values that came in. -/
theorem open_ints1 {fuel : Nat} {cs : List Value} {x : DataW H × List MemPlace} (h : DataW.trod enc Try.prog w base (fun _ => true) held fuel 24 cs = some x) :
    ∃ ca n cc l, cs = [.slice ca n cc] ∧ SeenV w ca n (iv l) ∧ (∀ i ∈ l, okG i) ∧ n ≤ cc ∧ (n = 0 ∨ ∃ elems sp, x.1 = .slice elems sp ∧ n ≤ elems.length + sp.length) := by
  rcases open_ints Try.underlying24 Try.underlying3 (by kernel_rfl) h with ⟨hcs, _⟩ | ⟨a, l, c, zs, hcs, _, hl, hm, hz, hx, hcell, hwz⟩
  · exact ⟨none, 0, 0, [], hcs, ⟨rfl, fun h => by omega⟩, (fun i hi => by cases hi), Nat.le_refl _, .inl rfl⟩
  · have hz2 : zs.length = c := by simpa using hz
    refine ⟨some a, l, c, zs.take l, hcs, ⟨by rw [iv_len, List.length_take]; omega, fun h0 => ?_⟩, fun i hi => okG_of_wf (hwz i (List.mem_of_mem_take hi)), hl, .inr ⟨_, _, congrArg Prod.fst hx, by simp [lits]; omega⟩⟩
    obtain ⟨b, off, sp⟩ := a
    have hc0 := hcell 0 (by omega)
    have hsp : sp = none := by
      have := g_spot_none hc0
      unfold Addr.add at this
      split at this <;> simp_all
    subst hsp
    rw [addr_at] at hc0
    refine ⟨b, off, rfl, g_lt hc0, fun i v hi => ?_⟩
    have hil := (List.getElem?_eq_some_iff.1 hi).1
    rw [iv_len, List.length_take] at hil
    have := hcell i (by omega)
    rw [addr_at] at this
    rw [this, ← hi]
    simp [iv, show i < l by omega, show i < zs.length by omega]
theorem open_bools1 {fuel : Nat} {cs : List Value} {x : DataW H × List MemPlace} (h : DataW.trod enc Try.prog w base (fun _ => true) held fuel 23 cs = some x) :
    ∃ ca n cc l, cs = [.slice ca n cc] ∧ SeenV w ca n (bv' l) ∧ n ≤ cc ∧ (n = 0 ∨ ∃ elems sp, x.1 = .slice elems sp ∧ n ≤ elems.length + sp.length) := by
  rcases open_slice Try.underlying23 h with ⟨hcs, _⟩ | ⟨a', len, cap, m, n', D, Pl, hcs, _, hl, hm, hmm, hx, hall⟩
  · exact ⟨none, 0, 0, [], hcs, ⟨rfl, fun h => by omega⟩, Nat.le_refl _, .inl rfl⟩
  · simp at hmm
    subst hmm
    have hc : Try.prog.cellsOf 4 = 1 := by kernel_rfl
    rw [hc] at hall
    have hex : ∀ i, i < len → ∃ x : Bool, w.cell? (a'.add i) = some (.bool x) := by
      intro i hi
      obtain ⟨cs', h1, h2⟩ := hall i (by omega)
      obtain ⟨_, hlen, hcell⟩ := World.cells?_some h1
      obtain ⟨x, rfl, _⟩ := DataW.trod_bool Try.underlying4 h2
      have := hcell 0 (by omega)
      refine ⟨x, ?_⟩
      rw [Nat.mul_one] at this
      rw [show (a'.add i).add 0 = a'.add i by unfold Addr.add; split <;> simp_all] at this
      exact this
    obtain ⟨l, hll, hp⟩ := g_choose _ len hex
    refine ⟨some a', len, m, l, hcs, ⟨by rw [bv_len]; exact hll.symm, fun h0 => ?_⟩, hl, .inr ⟨_, _, congrArg Prod.fst hx, by simp⟩⟩
    obtain ⟨b, off, sp⟩ := a'
    have hsp : sp = none := by
      obtain ⟨x, hx⟩ := hex 0 h0
      have := g_spot_none hx
      unfold Addr.add at this
      split at this <;> simp_all
    subst hsp
    refine ⟨b, off, rfl, ?_, fun k v hv => ?_⟩
    · obtain ⟨x, hx⟩ := hex 0 h0
      rw [addr_at] at hx
      exact g_lt hx
    · rw [bv', List.getElem?_map] at hv
      cases hk : l[k]? with
      | none => rw [hk] at hv; cases hv
      | some x =>
        rw [hk] at hv
        obtain rfl := Option.some.inj hv
        have := hp k x hk
        rwa [addr_at] at this
theorem weights_at {P : Program} {ts : List TypeId} {ds : List (DataW H)} (h : (DataW.weightsEach P ts ds).all (· ≤ reachBytes) = true) {j : Nat} {t : TypeId} {d : DataW H} (ht : ts[j]? = some t) (hd : ds[j]? = some d) :
    (d.weights P t).all (· ≤ reachBytes) = true := by
  refine List.all_eq_true.2 fun n hn => ?_
  exact List.all_eq_true.1 h n (DataW.weights_mem_each ht hd n hn)
/-- A game: its three lists. -/
theorem open_hgame {r : Reach} {b0 : Nat} {v : Value} {d : DataW H} {ps : List MemPlace} (hval : Value.okWide Try.prog w r b0 26 v) (hd : DataW.Trod enc Try.prog w base (fun _ => true) held 26 v d ps) :
    ∃ a n c l b m e st p k f pk, v = .agg #[.slice a n c, .slice b m e, .slice p k f] ∧ Seen w a n l ∧ SeenV w b m (bv' st) ∧ SeenV w p k (iv pk) ∧ n ≤ c ∧ m ≤ e ∧ k ≤ f ∧ (∀ i ∈ l, okD i) ∧ (∀ i ∈ pk, okG i) ∧
      ((d.weights Try.prog 26).all (· ≤ reachBytes) = true → n * 16 ≤ reachBytes ∧ m ≤ reachBytes ∧ k * 8 ≤ reachBytes) := by
  obtain ⟨cs, rfl, hs⟩ := okWide_struct Try.underlying26 hval
  rw [show Try.prog.cellsOf 26 = 3 by kernel_rfl] at hs
  obtain ⟨fuel, hf⟩ := hd
  obtain ⟨xs, n, _, hxx, hl', hxl, hf⟩ := DataW.trod_struct Try.underlying26 hf
  have q0 : DataW.trod enc Try.prog w base (fun _ => true) held n 22 (List.take (Try.prog.cellsOf 22) (List.drop 0 (Value.agg cs).cells.toList)) = xs[0]? := hf 0 _ rfl
  have q1 : DataW.trod enc Try.prog w base (fun _ => true) held n 23 (List.take (Try.prog.cellsOf 23) (List.drop 1 (Value.agg cs).cells.toList)) = xs[1]? := hf 1 _ rfl
  have q2 : DataW.trod enc Try.prog w base (fun _ => true) held n 24 (List.take (Try.prog.cellsOf 24) (List.drop 2 (Value.agg cs).cells.toList)) = xs[2]? := hf 2 _ rfl
  have hx1 : xs.length = 3 := hxl
  rw [List.getElem?_eq_getElem (by omega)] at q0 q1 q2
  obtain ⟨cs⟩ := cs
  match cs, hs with
  | [v0, v1, v2], _ =>
    rw [show Try.prog.cellsOf 22 = 1 by kernel_rfl] at q0
    rw [show Try.prog.cellsOf 23 = 1 by kernel_rfl] at q1
    rw [show Try.prog.cellsOf 24 = 1 by kernel_rfl] at q2
    obtain ⟨a0, n0, c0, l0, e0, hS0, ok0, le0, hle0⟩ := open_deeds q0
    obtain ⟨a1, n1, c1, l1, e1, hS1, le1, hle1⟩ := open_bools1 q1
    obtain ⟨a2, n2, c2, l2, e2, hS2, ok2, le2, hle2⟩ := open_ints1 q2
    simp [Value.cells] at e0 e1 e2
    subst e0 e1 e2
    refine ⟨a0, n0, c0, l0, a1, n1, c1, l1, a2, n2, c2, l2, rfl, hS0, hS1, hS2, le0, le1, le2, ok0, ok2, fun hall => ?_⟩
    obtain ⟨x0, x1, x2, rfl⟩ : ∃ x0 x1 x2, xs = [x0, x1, x2] := by
      clear hle0 hle1 hle2 q0 q1 q2 hf hxx
      match xs, hx1 with
      | [x0, x1, x2], _ => exact ⟨_, _, _, rfl⟩
    simp only [List.getElem_cons_succ, List.getElem_cons_zero] at hle0 hle1 hle2
    simp only [Prod.mk.injEq, List.map_cons, List.map_nil] at hxx
    obtain ⟨rfl, _⟩ := hxx
    refine ⟨?_, ?_, ?_⟩
    · rcases hle0 with h0 | ⟨elems, sp, hx, hle⟩
      · subst h0; simp [reachBytes]
      · rw [hx] at hall
        have hm := List.all_eq_true.1 hall ((elems.length + sp.length) * Try.prog.bytesOf 45) (by
          simp [DataW.weights, Try.underlying26, DataW.weightsEach, Try.underlying22])
        rw [show Try.prog.bytesOf 45 = 16 by kernel_rfl] at hm
        simp at hm
        omega
    · rcases hle1 with h0 | ⟨elems, sp, hx, hle⟩
      · subst h0; simp [reachBytes]
      · rw [hx] at hall
        have hm := List.all_eq_true.1 hall ((elems.length + sp.length) * Try.prog.bytesOf 4) (by
          simp [DataW.weights, Try.underlying26, DataW.weightsEach, Try.underlying23])
        rw [show Try.prog.bytesOf 4 = 1 by kernel_rfl] at hm
        simp at hm
        omega
    · rcases hle2 with h0 | ⟨elems, sp, hx, hle⟩
      · subst h0; simp [reachBytes]
      · rw [hx] at hall
        have hm := List.all_eq_true.1 hall ((elems.length + sp.length) * Try.prog.bytesOf 3) (by
          simp [DataW.weights, Try.underlying26, DataW.weightsEach, Try.underlying24])
        rw [show Try.prog.bytesOf 3 = 8 by kernel_rfl] at hm
        simp at hm
        omega
end
end Go.Proofs.Ytdiabpoafennlaa
/-! The walk of HyperNumbers. -/
namespace Go.Proofs.Ytdiabpoafennlaa.Nm
set_option linter.unusedVariables false
set_option maxRecDepth 20000
set_option linter.unusedSimpArgs false
open Go.RowKit Go.HeapKit Go.PlainOps

theorem fits_puts {l : List Dd} (h : ∀ i ∈ l, okD i) : Fits (putsD l) := fun x hx => by
  obtain ⟨d, hd, rfl⟩ := List.mem_map.1 hx
  exact (h d (List.mem_filter.1 hd).1).2
theorem own_segS {w : World} {B : Nat} {e : TypeId} {a : Option Addr} {n c : Nat} {l : List Int} (h : w.ownsRow B e 1 (.slice a n c) n (iv l)) (hn : l.length = n) : Seg w a c l := by
  rcases h.2 with ⟨e1, h0⟩ | ⟨g, cap, cur, e1, hb, hg, hnc, hm, hcs, ht⟩
  · injection e1 with e1 e2 e3
    subst e1 e3
    have : l = [] := List.eq_nil_of_length_eq_zero (by omega)
    subst this
    exact seg_nil w
  · injection e1 with e1 e2 e3
    subst e1 e3
    refine ⟨by omega, hm, .inr ⟨g, 0, rfl, fun i hi => ?_⟩⟩
    obtain ⟨g', e', -, -, -, hc, -⟩ := own_cell1 h (k := i) (x := .int .i64 (l.getD i 0)) (by rw [iv, List.getElem?_map, List.getElem?_eq_getElem hi, List.getD_eq_getElem?_getD, List.getElem?_eq_getElem hi]; rfl)
    injection e' with e'
    injection e' with e'
    subst e'
    rw [Nat.zero_add]
    exact hc
theorem foldErr_more {op : Int} (h : foldErr op ((0 : Nat) : Int) = 0) {n : Nat} (hn : n ≤ 4096) : foldErr op (n : Int) = 0 := by
  unfold foldErr at *
  split at h
  · omega
  · rename_i h1
    rw [if_neg h1]
    split at h
    · omega
    · rename_i h2
      rw [if_neg h2, if_neg (by omega)]
set_option maxHeartbeats 3200000 in
theorem hyperNumbers_walk (op : Int) (a0 a1 a2 : Option Addr) (n0 c0 n1 c1 n2 c2 : Nat) (l : List Dd) (st : List Bool) (pk : List Int) (w : World) (h0 : Seen w a0 n0 l) (h1 : SeenV w a1 n1 (bv' st)) (h2 : SeenV w a2 n2 (iv pk)) (hc : n2 ≤ c2) (hD : ∀ i ∈ l, okD i) :
    Calls Try.prog 8 #[.int .i64 op, .agg #[.slice a0 n0 c0, .slice a1 n1 c1, .slice a2 n2 c2]] w fun e w' => e = .returned (.bool true) ∧ Below w.heap.size w w' := by
  have HS : Hid (Seen w a0 n0 l ∧ SeenV w a1 n1 (bv' st) ∧ SeenV w a2 n2 (iv pk) ∧ n2 ≤ c2 ∧ Fits (putsD l)) := ⟨h0, h1, h2, hc, fits_puts hD⟩
  have HL : Hid (n0 = l.length ∧ n1 = st.length ∧ n2 = pk.length) := ⟨h0.len, by have := h1.len; rwa [bv_len] at this, by have := h2.len; rwa [iv_len] at this⟩
  clear h0 h1 h2 hc hD
  obtain ⟨p0, hp0⟩ : ∃ p0, p0 = w.heap.size := ⟨_, rfl⟩
  have hb0 := blk_new w (.cells #[.slice a0 n0 c0, .slice a1 n1 c1, .slice a2 n2 c2] 26) p0 hp0.symm
  have hkb := (Keeps.alloc None w (.cells #[.slice a0 n0 c0, .slice a1 n1 c1, .slice a2 n2 c2] 26))
  go_enter Try.func8, Try.ntmps8
  go_upto_region 1 with fail
  rw [← hp0]
  clear hp0
  generalize (w.alloc (.cells #[.slice a0 n0 c0, .slice a1 n1 c1, .slice a2 n2 c2] 26)) = wb at *
  have HY : Hid (∀ wx, Keeps None wb wx → (Seen wx a0 n0 l ∧ SeenV wx a1 n1 (bv' st) ∧ SeenV wx a2 n2 (iv pk)) ∧ wx.cell? ⟨p0, 0, none⟩ = some (.slice a0 n0 c0) ∧ wx.cell? ⟨p0, 1, none⟩ = some (.slice a1 n1 c1) ∧ wx.cell? ⟨p0, 2, none⟩ = some (.slice a2 n2 c2)) := fun wx hx => ⟨⟨(HS.out.1.more hkb).more hx, (HS.out.2.1.more hkb).more hx, (HS.out.2.2.1.more hkb).more hx⟩, blk_cell (blk_kept hb0 hx (fun f => f)) 0, blk_cell (blk_kept hb0 hx (fun f => f)) 1, blk_cell (blk_kept hb0 hx (fun f => f)) 2⟩
  have HK : Hid (Keeps None w wb) := hkb
  clear hb0 hkb
  obtain ⟨⟨s0, s1, s2⟩, y0, y1, y2⟩ := HY.out wb (Keeps.refl _ _)
  go_wp2_with fail
  refine (Fold_ok op a0 n0 c0 l a1 n1 c1 st a2 n2 c2 pk wb s0 s1 s2 HS.out.2.2.2.1 HS.out.2.2.2.2).mono ?_
  clear y0 y1 y2 s0 s1 s2
  rintro e w1 ⟨rfl, hk1⟩
  obtain ⟨V, hV⟩ : ∃ V, V = nmV op l st pk := ⟨_, rfl⟩
  obtain ⟨E, hE⟩ : ∃ E, E = nmE op l st pk := ⟨_, rfl⟩
  rw [← hV, ← hE]
  have HV : Hid (V = nmV op l st pk ∧ E = nmE op l st pk) := ⟨hV, hE⟩
  have HK1 : Hid (Keeps None wb w1) := hk1
  clear hV hE hk1
  by_cases hF : foldErr op ((0 : Nat) : Int) = 0
  · have HF : Hid (foldErr op ((0 : Nat) : Int) = 0 ∧ E = refE l st pk ∧ V = if E = 0 then foldV op (putsD l) else 0) := by
      have e1 : E = refE l st pk := by rw [HV.out.2]; unfold nmE; rw [if_pos hF]
      refine ⟨hF, e1, ?_⟩
      rw [HV.out.1]; unfold nmV; rw [← HV.out.2]
    clear hF HV
    go_wp2_with fail
    refine (fold_ok op none 0 0 [] w1 HF.out.1 rfl (seg_nil w1)).mono ?_
    rintro e w2 ⟨rfl, rfl⟩
    obtain ⟨U, hU⟩ : ∃ U, U = foldV op [] := ⟨_, rfl⟩
    rw [← hU]
    clear hU
    obtain ⟨⟨s0, s1, s2⟩, y0, y1, y2⟩ := HY.out w2 HK1.out
    go_wp2_with fail
    refine (right_ok a0 a1 a2 n0 c0 n1 c1 n2 c2 l st pk w2 s0 HL.out.2.1 HL.out.2.2).mono ?_
    clear y0 y1 y2 s0 s1 s2
    rintro e w3 ⟨rfl, hk3⟩
    have HK3 : Hid (Keeps None wb w3) := HK1.out.trans hk3 (fun _ f _ => f)
    have hR := right_iff (l := l) (st := st) (pk := pk)
    rw [← HF.out.2.1] at hR
    clear hk3
    by_cases hE : E = 0
    · have HE0 : Hid (refE l st pk = 0 ∧ V = foldV op (putsD l)) := ⟨by rw [← HF.out.2.1]; exact hE, by have h := HF.out.2.2; rw [if_pos hE] at h; exact h⟩
      rw [hR.1 hE]
      subst hE
      clear hR
      obtain ⟨⟨s0, s1, s2⟩, y0, y1, y2⟩ := HY.out w3 HK3.out
      have hll := (refE_ok HE0.out.1).1
      have hn4 : n0 ≤ 4096 := by have := HL.out.1; omega
      go_wp2_with fail
      refine (puts_own a0 n0 c0 n0 l w3 s0 hn4 (Nat.le_refl _)).mono ?_
      clear y0 y1 y2 s0 s1 s2 hll
      rintro e w4 ⟨ua, uc, rfl, hu, hk4⟩
      rw [List.take_of_length_le (by have := HL.out.1; omega)] at hu ⊢
      have hpl := putsD_len l
      have HU : Hid (Seg w4 ua uc (putsD l) ∧ foldErr op ((putsD l).length : Int) = 0) := ⟨own_segS hu rfl, foldErr_more HF.out.1 (by have := HL.out.1; omega)⟩
      have HW : Hid (Below w.heap.size w w4) := ((HK.out.trans HK3.out (fun _ f _ => f)).trans hk4 (fun _ f _ => f)).below _ (Nat.le_refl _) (fun _ f => f.elim)
      obtain ⟨PL, hPL⟩ : ∃ PL, PL = (putsD l).length := ⟨_, rfl⟩
      rw [← hPL]
      have HPL : Hid (PL = (putsD l).length) := hPL
      clear hu hk4 hpl hPL
      go_wp2_with fail
      rw [HPL.out]
      refine (fold_ok op ua (putsD l).length uc (putsD l) w4 HU.out.2 rfl HU.out.1).mono ?_
      rintro e w5 ⟨rfl, rfl⟩
      rw [← HE0.out.2]
      go_wp2
      go_ret
      exact ⟨rfl, HW.out⟩
    · have HW : Hid (Below w.heap.size w w3) := (HK.out.trans HK3.out (fun _ f _ => f)).below _ (Nat.le_refl _) (fun _ f => f.elim)
      have hV0 : V = 0 := by have h := HF.out.2.2; rw [if_neg hE] at h; exact h
      rw [hR.2 hE]
      have hE2 : (E != 0) = true := by simp [hE]
      subst hV0
      clear hR
      go_wp2
      go_ret
      exact ⟨rfl, HW.out⟩
  · have e1 : E = foldErr op ((0 : Nat) : Int) := by rw [HV.out.2]; unfold nmE; rw [if_neg hF]
    have hE : E ≠ 0 := by rw [e1]; exact hF
    have hV0 : V = 0 := by rw [HV.out.1]; unfold nmV; rw [← HV.out.2, if_neg hE]
    have HF : Hid (foldErr op ((0 : Nat) : Int) ≠ 0 ∧ E = foldErr op ((0 : Nat) : Int)) := ⟨hF, e1⟩
    have HW : Hid (Below w.heap.size w w1) := (HK.out.trans HK1.out (fun _ f _ => f)).below _ (Nat.le_refl _) (fun _ f => f.elim)
    subst hV0
    clear hF e1 HV
    go_wp2_with fail
    refine (fold_err op none 0 0 w1 HF.out.1).mono ?_
    rintro e w2 ⟨rfl, rfl⟩
    rw [← HF.out.2]
    have hE2 : (E != 0) = true := by simp [hE]
    go_wp2
    go_ret
    exact ⟨rfl, HW.out⟩
end Go.Proofs.Ytdiabpoafennlaa.Nm
