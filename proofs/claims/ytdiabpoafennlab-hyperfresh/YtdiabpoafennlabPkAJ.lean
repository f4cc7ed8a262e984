import Derived.Test.YtdiabpoafennlabPkAA
import Derived.WalkMore
import Derived.Deep.RegionHeld3
import Derived.Deep.DeepCutAuto
import Derived.Laws.StructEq
import Derived.Test.YtdiabpoafennlabPkAI
import Derived.Test.YtdiabpoafennlabPkAH
import Derived.Test.YtdiabpoafennlabPkAG
import Derived.Test.YtdiabpoafennlabPkAD
/-! Games and lists compared; games written over. -/
namespace Go.Proofs.Ytdiabpoafennlab
set_option linter.unusedVariables false
set_option maxRecDepth 20000
set_option linter.unusedSimpArgs false
open Go.RowKit Go.HeapKit

theorem keeps_tr1 {S : Nat → Prop} {a b c : World} (h : Keeps S a b) (k : Keeps None b c) : Keeps S a c := h.trans k (fun _ f _ => f.elim)
theorem iv_get {l : List Int} {k : Nat} {v : Value} (h : (iv l)[k]? = some v) : ∃ x, l[k]? = some x ∧ v = .int .i64 x := by
  rw [iv, List.getElem?_map] at h
  cases hk : l[k]? with
  | none => rw [hk] at h; cases h
  | some x => rw [hk] at h; exact ⟨x, rfl, (Option.some.inj h).symm⟩
theorem bv_get {l : List Bool} {k : Nat} {v : Value} (h : (bv' l)[k]? = some v) : ∃ x, l[k]? = some x ∧ v = .bool x := by
  rw [bv', List.getElem?_map] at h
  cases hk : l[k]? with
  | none => rw [hk] at h; cases h
  | some x => rw [hk] at h; exact ⟨x, rfl, (Option.some.inj h).symm⟩
theorem sameInts_ok (a b : Option Addr) (n c d : Nat) (l : List Int) (w : World) (ha : SeenV w a n (iv l)) (hb : SeenV w b n (iv l)) (hz : n ≤ 17592186044416) :
    Calls Try.prog 20 #[.slice a n c, .slice b n d] w fun e w' => e = .returned (.bool true) ∧ Keeps None w w' := by
  have HH : Hid (SeenV w a n (iv l) ∧ SeenV w b n (iv l)) := ⟨ha, hb⟩
  clear ha hb
  go_enter Try.func20, Try.ntmps20
  go_wp2_with fail
  go_loopw [5] (fun i wr => ∃ k : Nat, k ≤ n ∧ i = .int .i64 k ∧ Keeps None w wr) (fun i _ => n - (intOf i).toNat)
  case atStart => exact ⟨0, Nat.zero_le _, rfl, Keeps.refl _ _⟩
  case round =>
    obtain ⟨k, hk, rfl, hkp⟩ := hrel
    by_cases hkn : k < n
    · obtain ⟨ga, oa, v, rfl, -, hx, u0⟩ := (HH.out.1.more hkp).at hkn
      obtain ⟨gb, ob, v2, rfl, -, hx2, u1⟩ := (HH.out.2.more hkp).at hkn
      rw [hx] at hx2
      obtain rfl := Option.some.inj hx2
      obtain ⟨x, -, rfl⟩ := iv_get hx
      have i1 : (k : Int) < (n : Int) := by omega
      have HK : Hid (Keeps None w wr) := hkp
      clear hx hx2 HH hkp
      go_wp2
      go_quiet (fail)
      go_wp2
      go_roundw
      case rel => exact ⟨k + 1, by omega, by go_num, keeps_tr1 HK.out (keeps_drewN _ _)⟩
      case measure => simp [intOf]; omega
    · have HK : Hid (Keeps None w wr) := hkp
      clear HH hkp
      go_wp2
      go_ret
      exact ⟨rfl, HK.out⟩
end Go.Proofs.Ytdiabpoafennlab
/-! Games written over. -/
namespace Go.Proofs.Ytdiabpoafennlab
set_option linter.unusedVariables false
set_option maxRecDepth 20000
set_option linter.unusedSimpArgs false
open Go.RowKit Go.HeapKit

def flipI (x : Int) : Int := bits .xor .i64 x 1
def flipD (d : Dd) : Dd := ⟨d.k, flipI d.loc⟩
theorem ddVals_set1 (l : List Dd) (k : Nat) (x : Dd) (y : Int) (hx : l[k]? = some x) : (ddVals l).set (k * 2 + 1) (.int .i64 y) = ddVals (l.set k ⟨x.k, y⟩) := by
  have hk := (List.getElem?_eq_some_iff.1 hx).1
  rw [← ddVals_set l k ⟨x.k, y⟩ hk]
  congr 1
  have h0 := ddVals_at l k x hx 0 (.int .i64 x.k) rfl
  rw [Nat.add_zero] at h0
  obtain ⟨h1, h2⟩ := List.getElem?_eq_some_iff.1 h0
  show ddVals l = (ddVals l).set (k * 2) (.int .i64 x.k)
  rw [← h2, List.set_getElem_self]
theorem over_set {α : Type} {f : α → α} {l : List α} {k : Nat} {x : α} (hx : l[k]? = some x) : ((l.take k).map f ++ l.drop k).set k (f x) = (l.take (k + 1)).map f ++ l.drop (k + 1) := by
  obtain ⟨hk, h2⟩ := List.getElem?_eq_some_iff.1 hx
  rw [List.set_append_right _ _ (by simp; omega), show k - ((l.take k).map f).length = 0 by simp; omega, List.drop_eq_getElem_cons hk, h2, List.take_add_one, hx]
  simp
theorem over_at {α : Type} {f : α → α} {l : List α} {k : Nat} {x : α} (hx : l[k]? = some x) : ((l.take k).map f ++ l.drop k)[k]? = some x := by
  obtain ⟨hk, h2⟩ := List.getElem?_eq_some_iff.1 hx
  rw [List.getElem?_append_right (by simp; omega), List.getElem?_drop]
  rw [show k + (k - ((l.take k).map f).length) = k by simp; omega]
  exact hx
def OwnF (v0 v1 v2 : Value) (i : Nat) : Prop := v0.ownBlock = some i ∨ v1.ownBlock = some i ∨ v2.ownBlock = some i
section
variable {w : World} {B : Nat} {v0 v1 v2 : Value} {n0 n1 n2 : Nat} {l : List Dd} {st : List Bool} {pk : List Int}
theorem Tri.notBox {p : Nat} {cs : Array Value} {fz : Nat × Nat} (h : Tri w B v0 v1 v2 n0 n1 n2 l st pk) (hp : w.heap[p]? = some (.cells cs 26 fz)) : ¬ OwnF v0 v1 v2 p := by
  rintro (e | e | e)
  · obtain ⟨cur, hc⟩ := own_block h.r0 e
    rw [hp] at hc
    injection hc with hc
    injection hc with _ hc
    exact absurd hc (by decide)
  · obtain ⟨cur, hc⟩ := own_block h.r1 e
    rw [hp] at hc
    injection hc with hc
    injection hc with _ hc
    exact absurd hc (by decide)
  · obtain ⟨cur, hc⟩ := own_block h.r2 e
    rw [hp] at hc
    injection hc with hc
    injection hc with _ hc
    exact absurd hc (by decide)
theorem Tri.lowF (h : Tri w B v0 v1 v2 n0 n1 n2 l st pk) {i : Nat} (e : OwnF v0 v1 v2 i) : B ≤ i := by
  rcases e with e | e | e
  · exact row_low h.r0 e
  · exact row_low h.r1 e
  · exact row_low h.r2 e
theorem Tri.put0 {g c : Nat} {k : Nat} {x : Dd} {y : Int} (h : Tri w B (.slice (some ⟨g, 0, none⟩) n0 c) v1 v2 n0 n1 n2 l st pk) (hx : l[k]? = some x) : Tri (w.setCell ⟨g, k * 2 + 1, none⟩ (.int .i64 y)) B (.slice (some ⟨g, 0, none⟩) n0 c) v1 v2 n0 n1 n2 (l.set k ⟨x.k, y⟩) st pk ∧ Keeps (fun i => B ≤ i) w (w.setCell ⟨g, k * 2 + 1, none⟩ (.int .i64 y)) := by
  have hk1 : Keeps (· = g) w (w.setCell ⟨g, k * 2 + 1, none⟩ (.int .i64 y)) := keeps_one (Keeps.refl _ _) _
  have hlo := row_low h.r0 (g := g) rfl
  refine ⟨⟨?_, row_kept h.r1 hk1 (fun q e e2 => own_apart h.r0 h.r1 (by decide) (g := g) rfl (e2 ▸ e)), row_kept h.r2 hk1 (fun q e e2 => own_apart h.r0 h.r2 (by decide) (g := g) rfl (e2 ▸ e))⟩, hk1.mono (fun i e _ => by subst e; exact hlo)⟩
  rw [← ddVals_set1 l k x y hx]
  exact row_set h.r0 _ _
theorem Tri.put1 {g c : Nat} {k : Nat} {y : Bool} (h : Tri w B v0 (.slice (some ⟨g, 0, none⟩) n1 c) v2 n0 n1 n2 l st pk) : Tri (w.setCell ⟨g, k, none⟩ (.bool y)) B v0 (.slice (some ⟨g, 0, none⟩) n1 c) v2 n0 n1 n2 l (st.set k y) pk ∧ Keeps (fun i => B ≤ i) w (w.setCell ⟨g, k, none⟩ (.bool y)) := by
  have hk1 : Keeps (· = g) w (w.setCell ⟨g, k, none⟩ (.bool y)) := keeps_one (Keeps.refl _ _) _
  have hlo := row_low h.r1 (g := g) rfl
  refine ⟨⟨row_kept h.r0 hk1 (fun q e e2 => own_apart h.r1 h.r0 (by decide) (g := g) rfl (e2 ▸ e)), ?_, row_kept h.r2 hk1 (fun q e e2 => own_apart h.r1 h.r2 (by decide) (g := g) rfl (e2 ▸ e))⟩, hk1.mono (fun i e _ => by subst e; exact hlo)⟩
  have := row_set h.r1 k (.bool y)
  rwa [show (bv' st).set k (.bool y) = bv' (st.set k y) by simp [bv']] at this
theorem Tri.put2 {g c : Nat} {k : Nat} {y : Int} (h : Tri w B v0 v1 (.slice (some ⟨g, 0, none⟩) n2 c) n0 n1 n2 l st pk) : Tri (w.setCell ⟨g, k, none⟩ (.int .i64 y)) B v0 v1 (.slice (some ⟨g, 0, none⟩) n2 c) n0 n1 n2 l st (pk.set k y) ∧ Keeps (fun i => B ≤ i) w (w.setCell ⟨g, k, none⟩ (.int .i64 y)) := by
  have hk1 : Keeps (· = g) w (w.setCell ⟨g, k, none⟩ (.int .i64 y)) := keeps_one (Keeps.refl _ _) _
  have hlo := row_low h.r2 (g := g) rfl
  refine ⟨⟨row_kept h.r0 hk1 (fun q e e2 => own_apart h.r2 h.r0 (by decide) (g := g) rfl (e2 ▸ e)), row_kept h.r1 hk1 (fun q e e2 => own_apart h.r2 h.r1 (by decide) (g := g) rfl (e2 ▸ e)), ?_⟩, hk1.mono (fun i e _ => by subst e; exact hlo)⟩
  have := row_set h.r2 k (.int .i64 y)
  rwa [show (iv pk).set k (.int .i64 y) = iv (pk.set k y) by simp [iv]] at this
end
theorem gne {w : World} {base : Nat} {e : TypeId} {size : Nat} {n c : Nat} {xs : List Value} {g p : Nat} (h : w.ownsRow base e size (.slice (some ⟨g, 0, none⟩) n c) n xs) {cs : Array Value} {t : TypeId} {fz : Nat × Nat} (hp : w.heap[p]? = some (.cells cs t fz)) (ht : t ≠ e) : g ≠ p := by
  obtain ⟨cur, hc⟩ := own_block h (g := g) rfl
  intro e1
  rw [e1, hp] at hc
  injection hc with hc
  injection hc with _ hc
  exact ht hc
set_option maxHeartbeats 3200000 in
theorem over_ok (a0 a1 a2 : Option Addr) (n0 c0 n1 c1 n2 c2 B : Nat) (l : List Dd) (st : List Bool) (pk : List Int) (w : World) (h : Tri w B (.slice a0 n0 c0) (.slice a1 n1 c1) (.slice a2 n2 c2) n0 n1 n2 l st pk) (hB : B ≤ w.heap.size) (hl : n0 = l.length) (z0 : n0 * 16 ≤ 140737488351232) (z1 : n1 ≤ 140737488351232) (z2 : n2 * 8 ≤ 140737488351232) :
    Calls Try.prog 13 #[.agg #[.slice a0 n0 c0, .slice a1 n1 c1, .slice a2 n2 c2]] w fun e w' => (∃ v, e = .returned v) ∧ Tri w' B (.slice a0 n0 c0) (.slice a1 n1 c1) (.slice a2 n2 c2) n0 n1 n2 (l.map flipD) (st.map not) (pk.map flipI) ∧ Keeps (OwnF (.slice a0 n0 c0) (.slice a1 n1 c1) (.slice a2 n2 c2)) w w' := by
  obtain ⟨p0, hp0⟩ : ∃ p0, p0 = w.heap.size := ⟨_, rfl⟩
  have hb0 := blk_new w (.cells #[.slice a0 n0 c0, .slice a1 n1 c1, .slice a2 n2 c2] 26) p0 hp0.symm
  have hkb := (Keeps.alloc None w (.cells #[.slice a0 n0 c0, .slice a1 n1 c1, .slice a2 n2 c2] 26))
  have hlen : n1 = st.length ∧ n2 = pk.length := by
    have e1 := h.r1.1
    have e2 := h.r2.1
    rw [bv_len] at e1
    rw [iv_len] at e2
    omega
  have HL : Hid (n0 = l.length ∧ n1 = st.length ∧ n2 = pk.length) := ⟨hl, hlen⟩
  clear hl hlen
  go_enter Try.func13, Try.ntmps13
  go_wp2_with fail
  rw [← hp0]
  generalize (w.alloc (.cells #[.slice a0 n0 c0, .slice a1 n1 c1, .slice a2 n2 c2] 26)) = wb at *
  have hT := h.more hkb
  have HB0 : Hid (wb.heap[p0]? = some (.cells #[.slice a0 n0 c0, .slice a1 n1 c1, .slice a2 n2 c2] 26 (0, 0))) := hb0
  have HNP : Hid (¬ OwnF (.slice a0 n0 c0) (.slice a1 n1 c1) (.slice a2 n2 c2) p0) := hT.notBox hb0
  have HT : Hid (Tri wb B (.slice a0 n0 c0) (.slice a1 n1 c1) (.slice a2 n2 c2) n0 n1 n2 l st pk) := hT
  have HK : Hid (Keeps None w wb ∧ p0 = w.heap.size ∧ B ≤ p0) := ⟨hkb, hp0, by omega⟩
  clear h hb0 hkb hT hp0 hB
  go_loopw [3] (fun i wr => ∃ k : Nat, k ≤ n0 ∧ i = .int .i64 k ∧ Tri wr B (.slice a0 n0 c0) (.slice a1 n1 c1) (.slice a2 n2 c2) n0 n1 n2 ((l.take k).map flipD ++ l.drop k) st pk ∧ Keeps (OwnF (.slice a0 n0 c0) (.slice a1 n1 c1) (.slice a2 n2 c2)) wb wr) (fun i _ => n0 - (intOf i).toNat)
  case atStart => exact ⟨0, Nat.zero_le _, rfl, by simpa using HT.out, Keeps.refl _ _⟩
  case round =>
    obtain ⟨k, hk, rfl, hT, hkp⟩ := hrel
    have b0 := blk_kept HB0.out hkp HNP.out
    have y0 : wr.cell? ⟨p0, 0, none⟩ = some (.slice a0 n0 c0) := (blk_cell b0 0).trans rfl
    have y1 : wr.cell? ⟨p0, 1, none⟩ = some (.slice a1 n1 c1) := (blk_cell b0 1).trans rfl
    have y2 : wr.cell? ⟨p0, 2, none⟩ = some (.slice a2 n2 c2) := (blk_cell b0 2).trans rfl
    by_cases hkn : k < n0
    · obtain ⟨x, hx⟩ : ∃ x, l[k]? = some x := ⟨l[k]'(by have := HL.out; omega), by simp⟩
      obtain ⟨g, rfl, hg1, hg2, hg3, ⟨u0, u1⟩, hf⟩ := row_elem hT.r0 (over_at (f := flipD) hx)
      have f1 := hf (k * 2 + 1)
      have hne := gne hT.r0 b0 (by decide)
      have HN : Hid (Tri (wr.setCell ⟨g, k * 2 + 1, none⟩ (.int .i64 (bits .xor .i64 x.loc 1))) B (.slice (some ⟨g, 0, none⟩) n0 c0) (.slice a1 n1 c1) (.slice a2 n2 c2) n0 n1 n2 ((l.take (k + 1)).map flipD ++ l.drop (k + 1)) st pk ∧ Keeps (OwnF (.slice (some ⟨g, 0, none⟩) n0 c0) (.slice a1 n1 c1) (.slice a2 n2 c2)) wb (wr.setCell ⟨g, k * 2 + 1, none⟩ (.int .i64 (bits .xor .i64 x.loc 1)))) := by
        have := hT.put0 (y := bits .xor .i64 x.loc 1) (over_at (f := flipD) hx)
        rw [show (⟨x.k, bits .xor .i64 x.loc 1⟩ : Dd) = flipD x from rfl, over_set hx] at this
        exact ⟨this.1, hkp.trans (keeps_one (g := g) (Keeps.refl _ _) _) (fun i e _ => by subst e; exact .inl rfl)⟩
      have i1 : (k : Int) < (n0 : Int) := by omega
      have hq : wr.drew.cell? ⟨p0, 0, none⟩ = some (.slice (some ⟨g, 0, none⟩) n0 c0) := y0
      clear hT hkp hx hf b0
      go_upto_region 4 with fail
      clear y0 y1 y2
      refine wp_region_held_drew (S := (fun w' => w'.cell? ⟨p0, 0, none⟩ = some (.slice (some ⟨g, 0, none⟩) n0 c0))) (by kernel_rfl) ?_ (fun hHeld => ?_)
      · (try dsimp only); first | with_reducible exact hq | exact hq | exact ((Keeps.refl (· = g) _).andSet (x := ⟨g, k * 2 + 1, none⟩) (.inl rfl) _).cell hq (fun e => hne e.symm)
      refine wpAnyH_take (i := 0) (oi := { dst := some 13, op := Op.fieldAddr 26 (Operand.tmp 1) 0, type := 0, pos := "law.go:112", after := #[], guard := none }) (v := ?_) rfl (by kernel_rfl) (by kernel_rfl) (by kernel_rfl) (fun _ _ _ h => h) (Or.inl ⟨by rfl, ?_⟩) (by assumption) ?_
      rotate_left
      · (intro wz hSw; (try dsimp only at hSw); go_simp; try with_reducible rfl)
      simp only [Act.put, List.setIfInBounds_toArray, List.set_cons_zero, List.set_cons_succ]
      refine wpAnyH_take (i := 1) (oi := { dst := some 14, op := Op.load 22 (Operand.tmp 13), type := 22, pos := "law.go:112", after := #[{ on := 0, ground := Ground.data }], guard := none }) (v := ?_) rfl (by kernel_rfl) (by kernel_rfl) (by kernel_rfl) (fun _ _ _ h => h) (Or.inl ⟨by rfl, ?_⟩) (by assumption) ?_
      rotate_left
      · (intro wz hSw; (try dsimp only at hSw); go_simp; try with_reducible rfl)
      simp only [Act.put, List.setIfInBounds_toArray, List.set_cons_zero, List.set_cons_succ]
      refine wpAnyH_take (i := 2) (oi := { dst := some 15, op := Op.move (Operand.tmp 3), type := 3, pos := "law.go:112", after := #[], guard := none }) (v := ?_) rfl (by kernel_rfl) (by kernel_rfl) (by kernel_rfl) (fun _ _ _ h => h) (Or.inl ⟨by rfl, ?_⟩) (by assumption) ?_
      rotate_left
      · (intro wz hSw; (try dsimp only at hSw); go_simp; try with_reducible rfl)
      simp only [Act.put, List.setIfInBounds_toArray, List.set_cons_zero, List.set_cons_succ]
      refine wpAnyH_take (i := 3) (oi := { dst := some 16, op := Op.fieldAddr 26 (Operand.tmp 1) 0, type := 0, pos := "law.go:112", after := #[], guard := none }) (v := ?_) rfl (by kernel_rfl) (by kernel_rfl) (by kernel_rfl) (fun _ _ _ h => h) (Or.inl ⟨by rfl, ?_⟩) (by assumption) ?_
      rotate_left
      · (intro wz hSw; (try dsimp only at hSw); go_simp; try with_reducible rfl)
      simp only [Act.put, List.setIfInBounds_toArray, List.set_cons_zero, List.set_cons_succ]
      refine wpAnyH_take (i := 4) (oi := { dst := some 17, op := Op.load 22 (Operand.tmp 16), type := 22, pos := "law.go:112", after := #[{ on := 3, ground := Ground.data }], guard := none }) (v := ?_) rfl (by kernel_rfl) (by kernel_rfl) (by kernel_rfl) (fun _ _ _ h => h) (Or.inl ⟨by rfl, ?_⟩) (by assumption) ?_
      rotate_left
      · (intro wz hSw; (try dsimp only at hSw); go_simp; try with_reducible rfl)
      simp only [Act.put, List.setIfInBounds_toArray, List.set_cons_zero, List.set_cons_succ]
      refine wpAnyH_take (i := 5) (oi := { dst := some 18, op := Op.move (Operand.tmp 3), type := 3, pos := "law.go:112", after := #[], guard := none }) (v := ?_) rfl (by kernel_rfl) (by kernel_rfl) (by kernel_rfl) (fun _ _ _ h => h) (Or.inl ⟨by rfl, ?_⟩) (by assumption) ?_
      rotate_left
      · (intro wz hSw; (try dsimp only at hSw); go_simp; try with_reducible rfl)
      simp only [Act.put, List.setIfInBounds_toArray, List.set_cons_zero, List.set_cons_succ]
      refine wpAnyH_take (i := 6) (oi := { dst := some 19, op := Op.indexAddr 22 (Operand.tmp 17) (Operand.tmp 18), type := 0, pos := "law.go:112", after := #[{ on := 4, ground := Ground.data }, { on := 5, ground := Ground.data }], guard := none }) (v := ?_) rfl (by kernel_rfl) (by kernel_rfl) (by kernel_rfl) (fun _ _ _ h => h) (Or.inl ⟨by rfl, ?_⟩) (by assumption) ?_
      rotate_left
      · (intro wz hSw; (try dsimp only at hSw); go_simp; try with_reducible rfl)
      simp only [Act.put, List.setIfInBounds_toArray, List.set_cons_zero, List.set_cons_succ]
      refine wpAnyH_take (i := 7) (oi := { dst := some 20, op := Op.fieldAddr 44 (Operand.tmp 19) 1, type := 0, pos := "law.go:112", after := #[{ on := 6, ground := Ground.data }], guard := none }) (v := ?_) rfl (by kernel_rfl) (by kernel_rfl) (by kernel_rfl) (fun _ _ _ h => h) (Or.inl ⟨by rfl, ?_⟩) (by assumption) ?_
      rotate_left
      · (intro wz hSw; (try dsimp only at hSw); go_simp; try with_reducible rfl)
      simp only [Act.put, List.setIfInBounds_toArray, List.set_cons_zero, List.set_cons_succ]
      refine wpAnyH_ready (rs := [8]) (by kernel_rfl) (by simp) ?_
      refine AllReadyH.cons (o := { dst := some 21, op := Op.load 2 (Operand.tmp 20), type := 2, pos := "law.go:112", after := #[{ on := 7, ground := Ground.data }], guard := none }) rfl (fun K hK => ?_) ?_
      · go_simp
        refine hK.out _ _ ?_ (fun hHeld2 => ?_)
        · (try dsimp only); first | with_reducible exact hq | exact hq | exact ((Keeps.refl (· = g) _).andSet (x := ⟨g, k * 2 + 1, none⟩) (.inl rfl) _).cell hq (fun e => hne e.symm)
        clear hK K
        try simp only [Act.put, List.setIfInBounds_toArray, List.set_cons_zero, List.set_cons_succ]
        refine wpAnyH_take (i := 9) (oi := { dst := some 22, op := Op.binOp BinOp.xor 2 (Operand.tmp 21) (Operand.const (Value.int IntKind.i64 1)) 2, type := 2, pos := "law.go:112", after := #[{ on := 8, ground := Ground.data }], guard := none }) (v := ?_) rfl (by kernel_rfl) (by kernel_rfl) (by kernel_rfl) (fun _ _ _ h => h) (Or.inl ⟨by rfl, ?_⟩) (by assumption) ?_
        rotate_left
        · (intro wz hSw; (try dsimp only at hSw); go_simp; try with_reducible rfl)
        simp only [Act.put, List.setIfInBounds_toArray, List.set_cons_zero, List.set_cons_succ]
        refine wpAnyH_take (i := 10) (oi := { dst := some 23, op := Op.indexAddr 22 (Operand.tmp 14) (Operand.tmp 15), type := 0, pos := "law.go:112", after := #[{ on := 1, ground := Ground.data }, { on := 2, ground := Ground.data }, { on := 0, ground := Ground.phase }, { on := 1, ground := Ground.phase }, { on := 2, ground := Ground.phase }, { on := 3, ground := Ground.phase }, { on := 4, ground := Ground.phase }, { on := 5, ground := Ground.phase }, { on := 6, ground := Ground.phase }, { on := 7, ground := Ground.phase }, { on := 8, ground := Ground.phase }, { on := 9, ground := Ground.phase }], guard := none }) (v := ?_) rfl (by kernel_rfl) (by kernel_rfl) (by kernel_rfl) (fun _ _ _ h => h) (Or.inl ⟨by rfl, ?_⟩) (by assumption) ?_
        rotate_left
        · (intro wz hSw; (try dsimp only at hSw); go_simp; try with_reducible rfl)
        simp only [Act.put, List.setIfInBounds_toArray, List.set_cons_zero, List.set_cons_succ]
        refine wpAnyH_take (i := 11) (oi := { dst := some 24, op := Op.fieldAddr 44 (Operand.tmp 23) 1, type := 0, pos := "law.go:112", after := #[{ on := 10, ground := Ground.data }, { on := 0, ground := Ground.phase }, { on := 1, ground := Ground.phase }, { on := 2, ground := Ground.phase }, { on := 3, ground := Ground.phase }, { on := 4, ground := Ground.phase }, { on := 5, ground := Ground.phase }, { on := 6, ground := Ground.phase }, { on := 7, ground := Ground.phase }, { on := 8, ground := Ground.phase }, { on := 9, ground := Ground.phase }], guard := none }) (v := ?_) rfl (by kernel_rfl) (by kernel_rfl) (by kernel_rfl) (fun _ _ _ h => h) (Or.inl ⟨by rfl, ?_⟩) (by assumption) ?_
        rotate_left
        · (intro wz hSw; (try dsimp only at hSw); go_simp; try with_reducible rfl)
        simp only [Act.put, List.setIfInBounds_toArray, List.set_cons_zero, List.set_cons_succ]
        refine wpAnyH_ready (rs := [12]) (by kernel_rfl) (by simp) ?_
        refine AllReadyH.cons (o := { dst := none, op := Op.store 2 (Operand.tmp 24) (Operand.tmp 22), type := 0, pos := "law.go:112", after := #[{ on := 11, ground := Ground.data }, { on := 9, ground := Ground.data }, { on := 0, ground := Ground.phase }, { on := 1, ground := Ground.phase }, { on := 2, ground := Ground.phase }, { on := 3, ground := Ground.phase }, { on := 4, ground := Ground.phase }, { on := 5, ground := Ground.phase }, { on := 6, ground := Ground.phase }, { on := 7, ground := Ground.phase }, { on := 8, ground := Ground.phase }, { on := 9, ground := Ground.phase }], guard := none }) rfl (fun K hK => ?_) ?_
        · go_simp
          refine hK.out _ _ ?_ (fun hHeld2 => ?_)
          · (try dsimp only); first | with_reducible exact hq | exact hq | exact ((Keeps.refl (· = g) _).andSet (x := ⟨g, k * 2 + 1, none⟩) (.inl rfl) _).cell hq (fun e => hne e.symm)
          clear hK K
          try simp only [Act.put, List.setIfInBounds_toArray, List.set_cons_zero, List.set_cons_succ]
          refine wpAnyH_done (by kernel_rfl) ?_ _
          go_wp2_with fail
          go_roundw
          case rel => exact ⟨k + 1, by omega, by go_num, HN.out.1.more (Keeps.drew None _), HN.out.2.andDrew⟩
          case measure => simp [intOf]; omega
        exact AllReadyH.nil
      exact AllReadyH.nil
    · have hD : ((l.take k).map flipD ++ l.drop k) = l.map flipD := by rw [List.take_of_length_le (by have := HL.out; omega), List.drop_eq_nil_of_le (by have := HL.out; omega), List.append_nil]
      rw [hD] at hT
      have HT1 : Hid (Tri wr B (.slice a0 n0 c0) (.slice a1 n1 c1) (.slice a2 n2 c2) n0 n1 n2 (l.map flipD) st pk ∧ Keeps (OwnF (.slice a0 n0 c0) (.slice a1 n1 c1) (.slice a2 n2 c2)) wb wr) := ⟨hT, hkp⟩
      have i1 : ¬ (k : Int) < (n0 : Int) := by omega
      clear hD hT hkp b0
      go_wp2_with fail
      clear y0 y1 y2 i1 hkn hk
      clear HT
      go_loopw [4] (fun i wr => ∃ k : Nat, k ≤ n1 ∧ i = .int .i64 k ∧ Tri wr B (.slice a0 n0 c0) (.slice a1 n1 c1) (.slice a2 n2 c2) n0 n1 n2 (l.map flipD) ((st.take k).map not ++ st.drop k) pk ∧ Keeps (OwnF (.slice a0 n0 c0) (.slice a1 n1 c1) (.slice a2 n2 c2)) wb wr) (fun i _ => n1 - (intOf i).toNat)
      case atStart => exact ⟨0, Nat.zero_le _, rfl, by simpa using HT1.out.1, HT1.out.2⟩
      case round =>
        clear HT1
        obtain ⟨k, hk, rfl, hT, hkp⟩ := hrel
        have b0 := blk_kept HB0.out hkp HNP.out
        have y0 : wr.cell? ⟨p0, 0, none⟩ = some (.slice a0 n0 c0) := (blk_cell b0 0).trans rfl
        have y1 : wr.cell? ⟨p0, 1, none⟩ = some (.slice a1 n1 c1) := (blk_cell b0 1).trans rfl
        have y2 : wr.cell? ⟨p0, 2, none⟩ = some (.slice a2 n2 c2) := (blk_cell b0 2).trans rfl
        by_cases hkn : k < n1
        · obtain ⟨x, hx⟩ : ∃ x, st[k]? = some x := ⟨st[k]'(by have := HL.out; omega), by simp⟩
          obtain ⟨g, rfl, hg1, hg2, hg3, u0, hf⟩ := own_cell1 hT.r1 (k := k) (x := .bool x) (by rw [bv', List.getElem?_map, over_at (f := not) hx]; rfl)
          have f1 := hf k
          have hne := gne hT.r1 b0 (by decide)
          have HN : Hid (Tri (wr.setCell ⟨g, k, none⟩ (.bool (!x))) B (.slice a0 n0 c0) (.slice (some ⟨g, 0, none⟩) n1 c1) (.slice a2 n2 c2) n0 n1 n2 (l.map flipD) ((st.take (k + 1)).map not ++ st.drop (k + 1)) pk ∧ Keeps (OwnF (.slice a0 n0 c0) (.slice (some ⟨g, 0, none⟩) n1 c1) (.slice a2 n2 c2)) wb (wr.setCell ⟨g, k, none⟩ (.bool (!x)))) := by
            have := hT.put1 (k := k) (y := !x)
            rw [over_set hx] at this
            exact ⟨this.1, hkp.trans (keeps_one (g := g) (Keeps.refl _ _) _) (fun i e _ => by subst e; exact .inr (.inl rfl))⟩
          have i1 : (k : Int) < (n1 : Int) := by omega
          have hq : wr.drew.cell? ⟨p0, 1, none⟩ = some (.slice (some ⟨g, 0, none⟩) n1 c1) := y1
          clear hT hkp hx hf b0
          go_upto_region 8 with fail
          clear y0 y1 y2
          refine wp_region_held_drew (S := (fun w' => w'.cell? ⟨p0, 1, none⟩ = some (.slice (some ⟨g, 0, none⟩) n1 c1))) (by kernel_rfl) ?_ (fun hHeld => ?_)
          · (try dsimp only); first | with_reducible exact hq | exact hq | exact ((Keeps.refl (· = g) _).andSet (x := ⟨g, k, none⟩) (.inl rfl) _).cell hq (fun e => hne e.symm)
          refine wpAnyH_take (i := 0) (oi := { dst := some 32, op := Op.fieldAddr 26 (Operand.tmp 1) 1, type := 0, pos := "law.go:115", after := #[], guard := none }) (v := ?_) rfl (by kernel_rfl) (by kernel_rfl) (by kernel_rfl) (fun _ _ _ h => h) (Or.inl ⟨by rfl, ?_⟩) (by assumption) ?_
          rotate_left
          · (intro wz hSw; (try dsimp only at hSw); go_simp; try with_reducible rfl)
          simp only [Act.put, List.setIfInBounds_toArray, List.set_cons_zero, List.set_cons_succ]
          refine wpAnyH_take (i := 1) (oi := { dst := some 33, op := Op.load 23 (Operand.tmp 32), type := 23, pos := "law.go:115", after := #[{ on := 0, ground := Ground.data }], guard := none }) (v := ?_) rfl (by kernel_rfl) (by kernel_rfl) (by kernel_rfl) (fun _ _ _ h => h) (Or.inl ⟨by rfl, ?_⟩) (by assumption) ?_
          rotate_left
          · (intro wz hSw; (try dsimp only at hSw); go_simp; try with_reducible rfl)
          simp only [Act.put, List.setIfInBounds_toArray, List.set_cons_zero, List.set_cons_succ]
          refine wpAnyH_take (i := 2) (oi := { dst := some 34, op := Op.move (Operand.tmp 4), type := 3, pos := "law.go:115", after := #[], guard := none }) (v := ?_) rfl (by kernel_rfl) (by kernel_rfl) (by kernel_rfl) (fun _ _ _ h => h) (Or.inl ⟨by rfl, ?_⟩) (by assumption) ?_
          rotate_left
          · (intro wz hSw; (try dsimp only at hSw); go_simp; try with_reducible rfl)
          simp only [Act.put, List.setIfInBounds_toArray, List.set_cons_zero, List.set_cons_succ]
          refine wpAnyH_take (i := 3) (oi := { dst := some 35, op := Op.fieldAddr 26 (Operand.tmp 1) 1, type := 0, pos := "law.go:115", after := #[], guard := none }) (v := ?_) rfl (by kernel_rfl) (by kernel_rfl) (by kernel_rfl) (fun _ _ _ h => h) (Or.inl ⟨by rfl, ?_⟩) (by assumption) ?_
          rotate_left
          · (intro wz hSw; (try dsimp only at hSw); go_simp; try with_reducible rfl)
          simp only [Act.put, List.setIfInBounds_toArray, List.set_cons_zero, List.set_cons_succ]
          refine wpAnyH_take (i := 4) (oi := { dst := some 36, op := Op.load 23 (Operand.tmp 35), type := 23, pos := "law.go:115", after := #[{ on := 3, ground := Ground.data }], guard := none }) (v := ?_) rfl (by kernel_rfl) (by kernel_rfl) (by kernel_rfl) (fun _ _ _ h => h) (Or.inl ⟨by rfl, ?_⟩) (by assumption) ?_
          rotate_left
          · (intro wz hSw; (try dsimp only at hSw); go_simp; try with_reducible rfl)
          simp only [Act.put, List.setIfInBounds_toArray, List.set_cons_zero, List.set_cons_succ]
          refine wpAnyH_take (i := 5) (oi := { dst := some 37, op := Op.move (Operand.tmp 4), type := 3, pos := "law.go:115", after := #[], guard := none }) (v := ?_) rfl (by kernel_rfl) (by kernel_rfl) (by kernel_rfl) (fun _ _ _ h => h) (Or.inl ⟨by rfl, ?_⟩) (by assumption) ?_
          rotate_left
          · (intro wz hSw; (try dsimp only at hSw); go_simp; try with_reducible rfl)
          simp only [Act.put, List.setIfInBounds_toArray, List.set_cons_zero, List.set_cons_succ]
          refine wpAnyH_take (i := 6) (oi := { dst := some 38, op := Op.indexAddr 23 (Operand.tmp 36) (Operand.tmp 37), type := 0, pos := "law.go:115", after := #[{ on := 4, ground := Ground.data }, { on := 5, ground := Ground.data }], guard := none }) (v := ?_) rfl (by kernel_rfl) (by kernel_rfl) (by kernel_rfl) (fun _ _ _ h => h) (Or.inl ⟨by rfl, ?_⟩) (by assumption) ?_
          rotate_left
          · (intro wz hSw; (try dsimp only at hSw); go_simp; try with_reducible rfl)
          simp only [Act.put, List.setIfInBounds_toArray, List.set_cons_zero, List.set_cons_succ]
          refine wpAnyH_ready (rs := [7]) (by kernel_rfl) (by simp) ?_
          refine AllReadyH.cons (o := { dst := some 39, op := Op.load 4 (Operand.tmp 38), type := 4, pos := "law.go:115", after := #[{ on := 6, ground := Ground.data }], guard := none }) rfl (fun K hK => ?_) ?_
          · go_simp
            refine hK.out _ _ ?_ (fun hHeld2 => ?_)
            · (try dsimp only); first | with_reducible exact hq | exact hq | exact ((Keeps.refl (· = g) _).andSet (x := ⟨g, k, none⟩) (.inl rfl) _).cell hq (fun e => hne e.symm)
            clear hK K
            try simp only [Act.put, List.setIfInBounds_toArray, List.set_cons_zero, List.set_cons_succ]
            refine wpAnyH_take (i := 8) (oi := { dst := some 40, op := Op.unOp UnOp.not 4 (Operand.tmp 39), type := 4, pos := "law.go:115", after := #[{ on := 7, ground := Ground.data }], guard := none }) (v := ?_) rfl (by kernel_rfl) (by kernel_rfl) (by kernel_rfl) (fun _ _ _ h => h) (Or.inl ⟨by rfl, ?_⟩) (by assumption) ?_
            rotate_left
            · (intro wz hSw; (try dsimp only at hSw); go_simp; try with_reducible rfl)
            simp only [Act.put, List.setIfInBounds_toArray, List.set_cons_zero, List.set_cons_succ]
            refine wpAnyH_take (i := 9) (oi := { dst := some 41, op := Op.indexAddr 23 (Operand.tmp 33) (Operand.tmp 34), type := 0, pos := "law.go:115", after := #[{ on := 1, ground := Ground.data }, { on := 2, ground := Ground.data }, { on := 0, ground := Ground.phase }, { on := 1, ground := Ground.phase }, { on := 2, ground := Ground.phase }, { on := 3, ground := Ground.phase }, { on := 4, ground := Ground.phase }, { on := 5, ground := Ground.phase }, { on := 6, ground := Ground.phase }, { on := 7, ground := Ground.phase }, { on := 8, ground := Ground.phase }], guard := none }) (v := ?_) rfl (by kernel_rfl) (by kernel_rfl) (by kernel_rfl) (fun _ _ _ h => h) (Or.inl ⟨by rfl, ?_⟩) (by assumption) ?_
            rotate_left
            · (intro wz hSw; (try dsimp only at hSw); go_simp; try with_reducible rfl)
            simp only [Act.put, List.setIfInBounds_toArray, List.set_cons_zero, List.set_cons_succ]
            refine wpAnyH_ready (rs := [10]) (by kernel_rfl) (by simp) ?_
            refine AllReadyH.cons (o := { dst := none, op := Op.store 4 (Operand.tmp 41) (Operand.tmp 40), type := 0, pos := "law.go:115", after := #[{ on := 9, ground := Ground.data }, { on := 8, ground := Ground.data }, { on := 0, ground := Ground.phase }, { on := 1, ground := Ground.phase }, { on := 2, ground := Ground.phase }, { on := 3, ground := Ground.phase }, { on := 4, ground := Ground.phase }, { on := 5, ground := Ground.phase }, { on := 6, ground := Ground.phase }, { on := 7, ground := Ground.phase }, { on := 8, ground := Ground.phase }], guard := none }) rfl (fun K hK => ?_) ?_
            · go_simp
              refine hK.out _ _ ?_ (fun hHeld2 => ?_)
              · (try dsimp only); first | with_reducible exact hq | exact hq | exact ((Keeps.refl (· = g) _).andSet (x := ⟨g, k, none⟩) (.inl rfl) _).cell hq (fun e => hne e.symm)
              clear hK K
              try simp only [Act.put, List.setIfInBounds_toArray, List.set_cons_zero, List.set_cons_succ]
              refine wpAnyH_done (by kernel_rfl) ?_ _
              go_wp2_with fail
              go_roundw
              case rel => exact ⟨k + 1, by omega, by go_num, HN.out.1.more (Keeps.drew None _), HN.out.2.andDrew⟩
              case measure => simp [intOf]; omega
            exact AllReadyH.nil
          exact AllReadyH.nil
        · have hD : ((st.take k).map not ++ st.drop k) = st.map not := by rw [List.take_of_length_le (by have := HL.out; omega), List.drop_eq_nil_of_le (by have := HL.out; omega), List.append_nil]
          rw [hD] at hT
          have HT1 : Hid (Tri wr B (.slice a0 n0 c0) (.slice a1 n1 c1) (.slice a2 n2 c2) n0 n1 n2 (l.map flipD) (st.map not) pk ∧ Keeps (OwnF (.slice a0 n0 c0) (.slice a1 n1 c1) (.slice a2 n2 c2)) wb wr) := ⟨hT, hkp⟩
          have i1 : ¬ (k : Int) < (n1 : Int) := by omega
          clear hD hT hkp b0
          go_wp2_with fail
          clear y0 y1 y2 i1 hkn hk
          go_loopw [5] (fun i wr => ∃ k : Nat, k ≤ n2 ∧ i = .int .i64 k ∧ Tri wr B (.slice a0 n0 c0) (.slice a1 n1 c1) (.slice a2 n2 c2) n0 n1 n2 (l.map flipD) (st.map not) ((pk.take k).map flipI ++ pk.drop k) ∧ Keeps (OwnF (.slice a0 n0 c0) (.slice a1 n1 c1) (.slice a2 n2 c2)) wb wr) (fun i _ => n2 - (intOf i).toNat)
          case atStart => exact ⟨0, Nat.zero_le _, rfl, by simpa using HT1.out.1, HT1.out.2⟩
          case round =>
            clear HT1
            obtain ⟨k, hk, rfl, hT, hkp⟩ := hrel
            have b0 := blk_kept HB0.out hkp HNP.out
            have y0 : wr.cell? ⟨p0, 0, none⟩ = some (.slice a0 n0 c0) := (blk_cell b0 0).trans rfl
            have y1 : wr.cell? ⟨p0, 1, none⟩ = some (.slice a1 n1 c1) := (blk_cell b0 1).trans rfl
            have y2 : wr.cell? ⟨p0, 2, none⟩ = some (.slice a2 n2 c2) := (blk_cell b0 2).trans rfl
            by_cases hkn : k < n2
            · obtain ⟨x, hx⟩ : ∃ x, pk[k]? = some x := ⟨pk[k]'(by have := HL.out; omega), by simp⟩
              obtain ⟨g, rfl, hg1, hg2, hg3, u0, hf⟩ := own_cell1 hT.r2 (k := k) (x := .int .i64 x) (by rw [iv, List.getElem?_map, over_at (f := flipI) hx]; rfl)
              have f1 := hf k
              have hne := gne hT.r2 b0 (by decide)
              have HN : Hid (Tri (wr.setCell ⟨g, k, none⟩ (.int .i64 (bits .xor .i64 x 1))) B (.slice a0 n0 c0) (.slice a1 n1 c1) (.slice (some ⟨g, 0, none⟩) n2 c2) n0 n1 n2 (l.map flipD) (st.map not) ((pk.take (k + 1)).map flipI ++ pk.drop (k + 1)) ∧ Keeps (OwnF (.slice a0 n0 c0) (.slice a1 n1 c1) (.slice (some ⟨g, 0, none⟩) n2 c2)) wb (wr.setCell ⟨g, k, none⟩ (.int .i64 (bits .xor .i64 x 1)))) := by
                have := hT.put2 (k := k) (y := bits .xor .i64 x 1)
                rw [show bits .xor .i64 x 1 = flipI x from rfl, over_set hx] at this
                exact ⟨this.1, hkp.trans (keeps_one (g := g) (Keeps.refl _ _) _) (fun i e _ => by subst e; exact .inr (.inr rfl))⟩
              have i1 : (k : Int) < (n2 : Int) := by omega
              have hq : wr.drew.cell? ⟨p0, 2, none⟩ = some (.slice (some ⟨g, 0, none⟩) n2 c2) := y2
              clear hT hkp hx hf b0
              go_upto_region 12 with fail
              clear y0 y1 y2
              refine wp_region_held_drew (S := (fun w' => w'.cell? ⟨p0, 2, none⟩ = some (.slice (some ⟨g, 0, none⟩) n2 c2))) (by kernel_rfl) ?_ (fun hHeld => ?_)
              · (try dsimp only); first | with_reducible exact hq | exact hq | exact ((Keeps.refl (· = g) _).andSet (x := ⟨g, k, none⟩) (.inl rfl) _).cell hq (fun e => hne e.symm)
              refine wpAnyH_take (i := 0) (oi := { dst := some 49, op := Op.fieldAddr 26 (Operand.tmp 1) 2, type := 0, pos := "law.go:118", after := #[], guard := none }) (v := ?_) rfl (by kernel_rfl) (by kernel_rfl) (by kernel_rfl) (fun _ _ _ h => h) (Or.inl ⟨by rfl, ?_⟩) (by assumption) ?_
              rotate_left
              · (intro wz hSw; (try dsimp only at hSw); go_simp; try with_reducible rfl)
              simp only [Act.put, List.setIfInBounds_toArray, List.set_cons_zero, List.set_cons_succ]
              refine wpAnyH_take (i := 1) (oi := { dst := some 50, op := Op.load 24 (Operand.tmp 49), type := 24, pos := "law.go:118", after := #[{ on := 0, ground := Ground.data }], guard := none }) (v := ?_) rfl (by kernel_rfl) (by kernel_rfl) (by kernel_rfl) (fun _ _ _ h => h) (Or.inl ⟨by rfl, ?_⟩) (by assumption) ?_
              rotate_left
              · (intro wz hSw; (try dsimp only at hSw); go_simp; try with_reducible rfl)
              simp only [Act.put, List.setIfInBounds_toArray, List.set_cons_zero, List.set_cons_succ]
              refine wpAnyH_take (i := 2) (oi := { dst := some 51, op := Op.move (Operand.tmp 5), type := 3, pos := "law.go:118", after := #[], guard := none }) (v := ?_) rfl (by kernel_rfl) (by kernel_rfl) (by kernel_rfl) (fun _ _ _ h => h) (Or.inl ⟨by rfl, ?_⟩) (by assumption) ?_
              rotate_left
              · (intro wz hSw; (try dsimp only at hSw); go_simp; try with_reducible rfl)
              simp only [Act.put, List.setIfInBounds_toArray, List.set_cons_zero, List.set_cons_succ]
              refine wpAnyH_take (i := 3) (oi := { dst := some 52, op := Op.fieldAddr 26 (Operand.tmp 1) 2, type := 0, pos := "law.go:118", after := #[], guard := none }) (v := ?_) rfl (by kernel_rfl) (by kernel_rfl) (by kernel_rfl) (fun _ _ _ h => h) (Or.inl ⟨by rfl, ?_⟩) (by assumption) ?_
              rotate_left
              · (intro wz hSw; (try dsimp only at hSw); go_simp; try with_reducible rfl)
              simp only [Act.put, List.setIfInBounds_toArray, List.set_cons_zero, List.set_cons_succ]
              refine wpAnyH_take (i := 4) (oi := { dst := some 53, op := Op.load 24 (Operand.tmp 52), type := 24, pos := "law.go:118", after := #[{ on := 3, ground := Ground.data }], guard := none }) (v := ?_) rfl (by kernel_rfl) (by kernel_rfl) (by kernel_rfl) (fun _ _ _ h => h) (Or.inl ⟨by rfl, ?_⟩) (by assumption) ?_
              rotate_left
              · (intro wz hSw; (try dsimp only at hSw); go_simp; try with_reducible rfl)
              simp only [Act.put, List.setIfInBounds_toArray, List.set_cons_zero, List.set_cons_succ]
              refine wpAnyH_take (i := 5) (oi := { dst := some 54, op := Op.move (Operand.tmp 5), type := 3, pos := "law.go:118", after := #[], guard := none }) (v := ?_) rfl (by kernel_rfl) (by kernel_rfl) (by kernel_rfl) (fun _ _ _ h => h) (Or.inl ⟨by rfl, ?_⟩) (by assumption) ?_
              rotate_left
              · (intro wz hSw; (try dsimp only at hSw); go_simp; try with_reducible rfl)
              simp only [Act.put, List.setIfInBounds_toArray, List.set_cons_zero, List.set_cons_succ]
              refine wpAnyH_take (i := 6) (oi := { dst := some 55, op := Op.indexAddr 24 (Operand.tmp 53) (Operand.tmp 54), type := 0, pos := "law.go:118", after := #[{ on := 4, ground := Ground.data }, { on := 5, ground := Ground.data }], guard := none }) (v := ?_) rfl (by kernel_rfl) (by kernel_rfl) (by kernel_rfl) (fun _ _ _ h => h) (Or.inl ⟨by rfl, ?_⟩) (by assumption) ?_
              rotate_left
              · (intro wz hSw; (try dsimp only at hSw); go_simp; try with_reducible rfl)
              simp only [Act.put, List.setIfInBounds_toArray, List.set_cons_zero, List.set_cons_succ]
              refine wpAnyH_ready (rs := [7]) (by kernel_rfl) (by simp) ?_
              refine AllReadyH.cons (o := { dst := some 56, op := Op.load 3 (Operand.tmp 55), type := 3, pos := "law.go:118", after := #[{ on := 6, ground := Ground.data }], guard := none }) rfl (fun K hK => ?_) ?_
              · go_simp
                refine hK.out _ _ ?_ (fun hHeld2 => ?_)
                · (try dsimp only); first | with_reducible exact hq | exact hq | exact ((Keeps.refl (· = g) _).andSet (x := ⟨g, k, none⟩) (.inl rfl) _).cell hq (fun e => hne e.symm)
                clear hK K
                try simp only [Act.put, List.setIfInBounds_toArray, List.set_cons_zero, List.set_cons_succ]
                refine wpAnyH_take (i := 8) (oi := { dst := some 57, op := Op.binOp BinOp.xor 3 (Operand.tmp 56) (Operand.const (Value.int IntKind.i64 1)) 3, type := 3, pos := "law.go:118", after := #[{ on := 7, ground := Ground.data }], guard := none }) (v := ?_) rfl (by kernel_rfl) (by kernel_rfl) (by kernel_rfl) (fun _ _ _ h => h) (Or.inl ⟨by rfl, ?_⟩) (by assumption) ?_
                rotate_left
                · (intro wz hSw; (try dsimp only at hSw); go_simp; try with_reducible rfl)
                simp only [Act.put, List.setIfInBounds_toArray, List.set_cons_zero, List.set_cons_succ]
                refine wpAnyH_take (i := 9) (oi := { dst := some 58, op := Op.indexAddr 24 (Operand.tmp 50) (Operand.tmp 51), type := 0, pos := "law.go:118", after := #[{ on := 1, ground := Ground.data }, { on := 2, ground := Ground.data }, { on := 0, ground := Ground.phase }, { on := 1, ground := Ground.phase }, { on := 2, ground := Ground.phase }, { on := 3, ground := Ground.phase }, { on := 4, ground := Ground.phase }, { on := 5, ground := Ground.phase }, { on := 6, ground := Ground.phase }, { on := 7, ground := Ground.phase }, { on := 8, ground := Ground.phase }], guard := none }) (v := ?_) rfl (by kernel_rfl) (by kernel_rfl) (by kernel_rfl) (fun _ _ _ h => h) (Or.inl ⟨by rfl, ?_⟩) (by assumption) ?_
                rotate_left
                · (intro wz hSw; (try dsimp only at hSw); go_simp; try with_reducible rfl)
                simp only [Act.put, List.setIfInBounds_toArray, List.set_cons_zero, List.set_cons_succ]
                refine wpAnyH_ready (rs := [10]) (by kernel_rfl) (by simp) ?_
                refine AllReadyH.cons (o := { dst := none, op := Op.store 3 (Operand.tmp 58) (Operand.tmp 57), type := 0, pos := "law.go:118", after := #[{ on := 9, ground := Ground.data }, { on := 8, ground := Ground.data }, { on := 0, ground := Ground.phase }, { on := 1, ground := Ground.phase }, { on := 2, ground := Ground.phase }, { on := 3, ground := Ground.phase }, { on := 4, ground := Ground.phase }, { on := 5, ground := Ground.phase }, { on := 6, ground := Ground.phase }, { on := 7, ground := Ground.phase }, { on := 8, ground := Ground.phase }], guard := none }) rfl (fun K hK => ?_) ?_
                · go_simp
                  refine hK.out _ _ ?_ (fun hHeld2 => ?_)
                  · (try dsimp only); first | with_reducible exact hq | exact hq | exact ((Keeps.refl (· = g) _).andSet (x := ⟨g, k, none⟩) (.inl rfl) _).cell hq (fun e => hne e.symm)
                  clear hK K
                  try simp only [Act.put, List.setIfInBounds_toArray, List.set_cons_zero, List.set_cons_succ]
                  refine wpAnyH_done (by kernel_rfl) ?_ _
                  go_wp2_with fail
                  go_roundw
                  case rel => exact ⟨k + 1, by omega, by go_num, HN.out.1.more (Keeps.drew None _), HN.out.2.andDrew⟩
                  case measure => simp [intOf]; omega
                exact AllReadyH.nil
              exact AllReadyH.nil
            · have hD : ((pk.take k).map flipI ++ pk.drop k) = pk.map flipI := by rw [List.take_of_length_le (by have := HL.out; omega), List.drop_eq_nil_of_le (by have := HL.out; omega), List.append_nil]
              rw [hD] at hT
              have HT1 : Hid (Tri wr B (.slice a0 n0 c0) (.slice a1 n1 c1) (.slice a2 n2 c2) n0 n1 n2 (l.map flipD) (st.map not) (pk.map flipI) ∧ Keeps (OwnF (.slice a0 n0 c0) (.slice a1 n1 c1) (.slice a2 n2 c2)) w wr) := ⟨hT, (HK.out.1.mono (T := (OwnF (.slice a0 n0 c0) (.slice a1 n1 c1) (.slice a2 n2 c2))) (fun _ f _ => f.elim)).trans hkp (fun i e hi => e)⟩
              have i1 : ¬ (k : Int) < (n2 : Int) := by omega
              clear hD hT hkp b0
              go_wp2
              go_ret
              exact ⟨⟨_, rfl⟩, HT1.out⟩
end Go.Proofs.Ytdiabpoafennlab
/-! The walk of HyperSerial. -/
namespace Go.Proofs.Ytdiabpoafennlab
set_option linter.unusedVariables false
set_option maxRecDepth 20000
set_option linter.unusedSimpArgs false
open Go.RowKit Go.HeapKit

def serL (l : List Dd) : List Int := if chkE l = 0 then putsD l else []
theorem ser_of {v : Value} {l : List Dd} {B : Nat} {w : World} (h0 : chkE l ≠ 0 → v = .slice none 0 0) (h1 : chkE l = 0 → w.ownsRow B 2 1 v (putsD l).length (iv (putsD l))) : ∃ a c, v = .slice a (serL l).length c ∧ SeenV w a (serL l).length (iv (serL l)) := by
  unfold serL
  by_cases h : chkE l = 0
  · rw [if_pos h]
    have hr := h1 h
    obtain ⟨a, c, rfl⟩ := row_shape hr
    exact ⟨a, c, rfl, own_seen1 hr⟩
  · rw [if_neg h]
    exact ⟨none, 0, h0 h, SeenV.nil _ _⟩
theorem serial_any (a : Option Addr) (n c : Nat) (l : List Dd) (w : World) (hS : Seen w a n l) :
    Calls Try.prog 14 #[.slice a n c] w fun e w' => ∃ a1 c1, e = .returned (.tuple #[.slice a1 (serL l).length c1, .int .i64 (chkE l)]) ∧ SeenV w' a1 (serL l).length (iv (serL l)) ∧ Keeps None w w' := by
  refine (serial_ok a n c l w hS).mono ?_
  rintro e w' ⟨v, rfl, h0, h1, hk⟩
  obtain ⟨a1, c1, rfl, h2⟩ := ser_of h0 h1
  exact ⟨a1, c1, rfl, h2, hk⟩
theorem Tri.seen {w : World} {B : Nat} {a : Option Addr} {c : Nat} {v1 v2 : Value} {n0 n1 n2 : Nat} {l : List Dd} {st : List Bool} {pk : List Int} (h : Tri w B (.slice a n0 c) v1 v2 n0 n1 n2 l st pk) (hl : n0 = l.length) : Seen w a n0 l := Seen.of_row hl h.r0
end Go.Proofs.Ytdiabpoafennlab
/-! The walk of HyperReducer. -/
namespace Go.Proofs.Ytdiabpoafennlab
set_option linter.unusedVariables false
set_option maxRecDepth 20000
set_option linter.unusedSimpArgs false
open Go.RowKit Go.HeapKit

theorem putsD_eq (l : List Dd) : putsL (l.map dp) = putsD l := by
  unfold putsL putsD
  rw [List.filter_map, List.map_map]
  rfl
/-- What comes out is what is put. -/
theorem fin_puts (l : List Dd) (st : List Bool) (pk : List Int) : (finPS l st pk).vs.getD 0 [] = putsD l := by
  rw [← putsD_eq]
  exact final_puts st (l.map dp) pk
theorem Fin.final {w : World} {B : Nat} {X : PX} {K : Ky → Value} {l : List Dd} {st : List Bool} {pk : List Int} (h : Fin w B X K (finPS l st pk)) : ∃ a c, K (.inl 0) = .slice a (putsD l).length c ∧ SeenV w a (putsD l).length (iv (putsD l)) := by
  have hr := h.vw.rows (.inl 0)
  have e : Lf (finPS l st pk).vs (finPS l st pk).lk (.inl 0) = putsD l := fin_puts l st pk
  rw [e] at hr
  obtain ⟨a, c, h2⟩ := row_shape hr
  rw [h2] at hr
  exact ⟨a, c, h2, own_seen1 hr⟩
end Go.Proofs.Ytdiabpoafennlab
/-! A reducer's play, plainly: the order in which views are merged is not seen. -/
namespace Go.Proofs.Ytdiabpoafennlab
set_option linter.unusedVariables false
set_option maxRecDepth 20000
set_option linter.unusedSimpArgs false

theorem hand_in {s : HS (List Int)} (h : s.m.row ≠ []) : s.hand ∈ s.m.row := by
  have hs := hand_split h
  rw [hs]
  exact List.mem_append_right _ (List.mem_singleton.2 rfl)
end Go.Proofs.Ytdiabpoafennlab
/-! Looks compared. -/
namespace Go.Proofs.Ytdiabpoafennlab
set_option linter.unusedVariables false
set_option maxRecDepth 20000
set_option linter.unusedSimpArgs false
open Go.RowKit Go.HeapKit

/-- A list of lists that can be read. -/
structure SeenL (w : World) (a : Option Addr) (n : Nat) (l : List (List Int)) : Prop where
  len : n = l.length
  ex : ∀ k x, l[k]? = some x → ∃ b off y c, a = some ⟨b, off, none⟩ ∧ w.cell? ⟨b, off + k, none⟩ = some (.slice y x.length c) ∧ SeenV w y x.length (iv x)
theorem SeenL.more {w w' : World} {a : Option Addr} {n : Nat} {l : List (List Int)} (h : SeenL w a n l) (hk : Keeps None w w') : SeenL w' a n l :=
  ⟨h.len, fun k x hx => by
    obtain ⟨b, off, y, c, e, h1, h2⟩ := h.ex k x hx
    exact ⟨b, off, y, c, e, hk.cell h1 (fun f => f), h2.more hk⟩⟩
theorem Fin.looks {w : World} {B : Nat} {X : PX} {K : Ky → Value} {s : PS} (h : Fin w B X K s) : SeenL w X.la s.lk.length s.lk := by
  refine ⟨rfl, fun k x hx => ?_⟩
  have hk := (List.getElem?_eq_some_iff.1 hx).1
  obtain ⟨g, e, _, _, _, hc, _⟩ := own_cellS h.vw.looks (k := k) (range_get _ hk)
  have hr := h.vw.rows (.inr k)
  have e2 : Lf s.vs s.lk (.inr k) = x := by simp [Lf, hx]
  rw [e2] at hr
  obtain ⟨y, c, h3⟩ := row_shape hr
  rw [h3] at hr hc
  exact ⟨g, 0, y, c, e, by rw [Nat.zero_add]; exact hc, own_seen1 hr⟩
set_option maxHeartbeats 1600000 in
theorem sameLooks_ok (a b : Option Addr) (n c d : Nat) (l : List (List Int)) (w : World) (ha : SeenL w a n l) (hb : SeenL w b n l) (hn : n ≤ 5000) (hz : ∀ x ∈ l, x.length ≤ 5000) :
    Calls Try.prog 22 #[.slice a n c, .slice b n d] w fun e w' => e = .returned (.bool true) ∧ Keeps None w w' := by
  have HH : Hid (SeenL w a n l ∧ SeenL w b n l ∧ ∀ x ∈ l, x.length ≤ 5000) := ⟨ha, hb, hz⟩
  have HLen : Hid (n = l.length) := ha.len
  clear ha hb hz
  go_enter Try.func22, Try.ntmps22
  go_wp2_with fail
  go_loopw [5] (fun i wr => ∃ k : Nat, k ≤ n ∧ i = .int .i64 k ∧ Keeps None w wr) (fun i _ => n - (intOf i).toNat)
  case atStart => exact ⟨0, Nat.zero_le _, rfl, Keeps.refl _ _⟩
  case round =>
    obtain ⟨k, hk, rfl, hkp⟩ := hrel
    by_cases hkn : k < n
    · obtain ⟨x, hx⟩ : ∃ x, l[k]? = some x := ⟨l[k]'(by have := HLen.out; omega), by simp⟩
      obtain ⟨ga, oa, ya, ca, rfl, u0, sa⟩ := (HH.out.1.more hkp).ex k x hx
      obtain ⟨gb, ob, yb, cb, rfl, u1, sb⟩ := (HH.out.2.1.more hkp).ex k x hx
      have hxl := HH.out.2.2 x (List.mem_of_getElem? hx)
      have i1 : (k : Int) < (n : Int) := by omega
      obtain ⟨N, hN⟩ : ∃ N, N = x.length := ⟨_, rfl⟩
      rw [← hN] at u0 u1
      have HS : Hid (∀ wx, Keeps None wr wx → SeenV wx ya N (iv x) ∧ SeenV wx yb N (iv x) ∧ N ≤ 5000 ∧ N = x.length) := fun wx hk => by
        rw [hN]
        exact ⟨sa.more hk, sb.more hk, hxl, rfl⟩
      have HK : Hid (Keeps None w wr) := hkp
      have v0 : wr.drew.cell? ⟨ga, oa + k, none⟩ = some (.slice ya N ca) := u0
      have v1 : wr.drew.cell? ⟨gb, ob + k, none⟩ = some (.slice yb N cb) := u1
      clear hx sa sb HH hkp hxl hN
      go_upto_region 6 with fail
      go_region_held3 (fun w' => w'.cell? ⟨ga, oa + k, none⟩ = some (.slice ya N ca) ∧ w'.cell? ⟨gb, ob + k, none⟩ = some (.slice yb N cb)) (first | with_reducible exact hs2 | exact ⟨v0, v1⟩ | go_keep) (first
        | (go_at_call 20; refine Calls.mono (sameInts_ok ya yb N ca cb x _ (HS.out _ (Keeps.drew None _)).1 (HS.out _ (Keeps.drew None _)).2.1 (by have := (HS.out _ (Keeps.drew None wr)).2.2.1; omega)) ?_; rintro _ w4 ⟨rfl, hk4⟩; have hkd := (Keeps.drew None wr).trans hk4 (fun _ f _ => f); have hs2 := (⟨hkd.cell u0 (fun f => f), hkd.cell u1 (fun f => f)⟩ : w4.cell? ⟨ga, oa + k, none⟩ = some (.slice ya N ca) ∧ w4.cell? ⟨gb, ob + k, none⟩ = some (.slice yb N cb))))
      all_goals (go_wp2_with fail; exact ⟨⟨k + 1, by omega, by go_num, HK.out.trans hkd (fun _ f _ => f)⟩, by simp [intOf]; omega⟩)
    · have HK : Hid (Keeps None w wr) := hkp
      have i1 : ¬ (k : Int) < (n : Int) := by omega
      clear HH hkp
      go_wp2
      go_ret
      exact ⟨rfl, HK.out⟩
end Go.Proofs.Ytdiabpoafennlab
/-! What Play tells, refused or not. -/
namespace Go.Proofs.Ytdiabpoafennlab
set_option linter.unusedVariables false
set_option maxRecDepth 20000
set_option linter.unusedSimpArgs false
open Go.RowKit Go.HeapKit

def finT (l : List Dd) (st : List Bool) (pk : List Int) : List Int := if refE l st pk = 0 then putsD l else []
def madeT (l : List Dd) (st : List Bool) (pk : List Int) : Nat := if refE l st pk = 0 then (finPS l st pk).vs.length else 0
def mgT (l : List Dd) (st : List Bool) (pk : List Int) : List (Nat × Nat × Nat) := if refE l st pk = 0 then (finPS l st pk).mg else []
def lkT (l : List Dd) (st : List Bool) (pk : List Int) : List (List Int) := if refE l st pk = 0 then (finPS l st pk).lk else []
/-- Merges that can be read. -/
def SeenM (w : World) (a : Option Addr) (mg : List (Nat × Nat × Nat)) : Prop := ∀ k x, mg[k]? = some x → ∃ g, a = some ⟨g, 0, none⟩ ∧ w.cell? ⟨g, k * 3, none⟩ = some (.int .i64 x.1) ∧ w.cell? ⟨g, k * 3 + 1, none⟩ = some (.int .i64 x.2.1) ∧ w.cell? ⟨g, k * 3 + 2, none⟩ = some (.int .i64 x.2.2)
theorem SeenM.more {w w' : World} {a : Option Addr} {mg : List (Nat × Nat × Nat)} (h : SeenM w a mg) (hk : Keeps None w w') : SeenM w' a mg := fun k x hx => by
  obtain ⟨g, e, h0, h1, h2⟩ := h k x hx
  exact ⟨g, e, hk.cell h0 (fun f => f), hk.cell h1 (fun f => f), hk.cell h2 (fun f => f)⟩
theorem mgV_at (mg : List (Nat × Nat × Nat)) (k : Nat) (x : Nat × Nat × Nat) (h : mg[k]? = some x) : (mgV mg)[k * 3]? = some (.int .i64 x.1) ∧ (mgV mg)[k * 3 + 1]? = some (.int .i64 x.2.1) ∧ (mgV mg)[k * 3 + 2]? = some (.int .i64 x.2.2) := by
  induction mg generalizing k with
  | nil => simp at h
  | cons y l ih =>
    have e : mgV (y :: l) = [.int .i64 y.1, .int .i64 y.2.1, .int .i64 y.2.2] ++ mgV l := rfl
    rw [e]
    cases k with
    | zero => simp at h; subst h; exact ⟨rfl, rfl, rfl⟩
    | succ k =>
      have := ih k (by simpa using h)
      rw [List.getElem?_append_right (by simp; omega), List.getElem?_append_right (by simp; omega), List.getElem?_append_right (by simp; omega)]
      refine ⟨?_, ?_, ?_⟩
      · rw [← this.1]; congr 1; simp; omega
      · rw [← this.2.1]; congr 1; simp; omega
      · rw [← this.2.2]; congr 1; simp; omega
theorem Fin.merges {w : World} {B : Nat} {X : PX} {K : Ky → Value} {s : PS} (h : Fin w B X K s) : SeenM w X.ma s.mg := fun k x hx => by
  obtain ⟨h0, h1, h2⟩ := mgV_at s.mg k x hx
  obtain ⟨g, e, _, _, _, c0, _⟩ := own_cellS h.mg h0
  obtain ⟨g1, e1, _, _, _, c1, _⟩ := own_cellS h.mg h1
  obtain ⟨g2, e2, _, _, _, c2, _⟩ := own_cellS h.mg h2
  rw [e] at e1 e2
  injection e1 with e1
  injection e1 with e1
  injection e2 with e2
  injection e2 with e2
  subst e1 e2
  exact ⟨_, e, c0, c1, c2⟩
theorem Play_told (a : Option Addr) (n c : Nat) (l : List Dd) (sa : Option Addr) (m sc : Nat) (st : List Bool) (pa : Option Addr) (k pc : Nat) (pk : List Int) (w : World) (hS : Seen w a n l) (hT : SeenV w sa m (bv' st)) (hP : SeenV w pa k (iv pk)) (hpc : k ≤ pc) :
    Calls Try.prog 7 #[.slice a n c, .slice sa m sc, .slice pa k pc] w fun e w' =>
      ∃ fa fc ma mc la lc, e = .returned (.tuple #[.agg #[.slice fa (finT l st pk).length fc, .int .i64 (madeT l st pk), .slice ma (mgT l st pk).length mc, .slice la (lkT l st pk).length lc], .int .i64 (refE l st pk)]) ∧
        SeenV w' fa (finT l st pk).length (iv (finT l st pk)) ∧ SeenL w' la (lkT l st pk).length (lkT l st pk) ∧ SeenM w' ma (mgT l st pk) ∧ Keeps None w w' := by
  refine (Play_ok a n c l sa m sc st pa k pc pk w hS hT hP hpc).mono ?_
  rintro e w' ⟨hbad, hgood, hk⟩
  unfold finT madeT mgT lkT
  by_cases hE : refE l st pk = 0
  · obtain ⟨B, X, K, h1, -, h2⟩ := hgood hE
    obtain ⟨fa, fc, h3, h4⟩ := h2.final
    rw [if_pos hE, if_pos hE, if_pos hE, if_pos hE, hE]
    rw [h3] at h1
    exact ⟨fa, fc, X.ma, X.mc, X.la, X.lc, h1, h4, h2.looks, h2.merges, hk⟩
  · rw [if_neg hE, if_neg hE, if_neg hE, if_neg hE]
    exact ⟨none, 0, none, 0, none, 0, hbad hE, SeenV.nil _ _, ⟨rfl, fun k x hx => by simp at hx⟩, fun k x hx => by simp at hx, hk⟩
end Go.Proofs.Ytdiabpoafennlab
/-! The plain laws of the operations that have a unit. -/
namespace Go.PlainOps
open Go.RowKit

theorem hasU_cases {op : Int} (h : hasU op = true) : op = 0 ∨ op = 2 ∨ op = 5 ∨ op = 6 ∨ op = 7 ∨ op = 10 ∨ op = 11 := by
  simp only [hasU, Bool.or_eq_true, beq_iff_eq] at h
  omega
theorem isOp_hasU {op : Int} (h : hasU op = true) : isOpV op = true := by
  rcases hasU_cases h with h | h | h | h | h | h | h <;> rw [h] <;> rfl

theorem workV_fits (op a b : Int) (h : hasU op = true) (ha : -9223372036854775808 ≤ a ∧ a ≤ 9223372036854775807) (hb : -9223372036854775808 ≤ b ∧ b ≤ 9223372036854775807) :
    -9223372036854775808 ≤ workV op a b ∧ workV op a b ≤ 9223372036854775807 := by
  rcases hasU_cases h with rfl | rfl | rfl | rfl | rfl | rfl | rfl
  · show _ ≤ wrap64 (a + b) ∧ wrap64 (a + b) ≤ _; unfold wrap64; omega
  · show _ ≤ wrap64 (a * b) ∧ wrap64 (a * b) ≤ _; unfold wrap64; omega
  · show _ ≤ bits .and .i64 a b ∧ bits .and .i64 a b ≤ _; rw [bits_and]; exact bv_bounds _
  · show _ ≤ bits .or .i64 a b ∧ bits .or .i64 a b ≤ _; rw [bits_or]; exact bv_bounds _
  · show _ ≤ bits .xor .i64 a b ∧ bits .xor .i64 a b ≤ _; rw [bits_xor]; exact bv_bounds _
  · show _ ≤ minV a b ∧ minV a b ≤ _; unfold minV; split <;> omega
  · show _ ≤ maxV a b ∧ maxV a b ≤ _; unfold maxV; split <;> omega
theorem workV_comm (op a b : Int) (h : hasU op = true) : workV op a b = workV op b a := by
  rcases hasU_cases h with rfl | rfl | rfl | rfl | rfl | rfl | rfl
  · show wrap64 (a + b) = wrap64 (b + a); rw [Int.add_comm]
  · show wrap64 (a * b) = wrap64 (b * a); rw [Int.mul_comm]
  · show bits .and .i64 a b = bits .and .i64 b a; rw [bits_and, bits_and, BitVec.and_comm]
  · show bits .or .i64 a b = bits .or .i64 b a; rw [bits_or, bits_or, BitVec.or_comm]
  · show bits .xor .i64 a b = bits .xor .i64 b a; rw [bits_xor, bits_xor, BitVec.xor_comm]
  · show minV a b = minV b a; unfold minV; split <;> split <;> omega
  · show maxV a b = maxV b a; unfold maxV; split <;> split <;> omega
theorem workV_assoc (op a b c : Int) (h : hasU op = true) : workV op (workV op a b) c = workV op a (workV op b c) := by
  rcases hasU_cases h with rfl | rfl | rfl | rfl | rfl | rfl | rfl
  · show wrap64 (wrap64 (a + b) + c) = wrap64 (a + wrap64 (b + c)); unfold wrap64; omega
  · show wrap64 (wrap64 (a * b) * c) = wrap64 (a * wrap64 (b * c))
    simp only [wrap64_bv, bv_mul, bv_toInt, BitVec.mul_assoc]
  · show bits .and .i64 (bits .and .i64 a b) c = bits .and .i64 a (bits .and .i64 b c)
    simp only [bits_and, bv_toInt, BitVec.and_assoc]
  · show bits .or .i64 (bits .or .i64 a b) c = bits .or .i64 a (bits .or .i64 b c)
    simp only [bits_or, bv_toInt, BitVec.or_assoc]
  · show bits .xor .i64 (bits .xor .i64 a b) c = bits .xor .i64 a (bits .xor .i64 b c)
    simp only [bits_xor, bv_toInt, BitVec.xor_assoc]
  · show minV (minV a b) c = minV a (minV b c)
    unfold minV; repeat' split
    all_goals omega
  · show maxV (maxV a b) c = maxV a (maxV b c)
    unfold maxV; repeat' split
    all_goals omega
theorem workV_unit (op a : Int) (h : hasU op = true) (h0 : -9223372036854775808 ≤ a) (h1 : a ≤ 9223372036854775807) : workV op (unitV op) a = a := by
  rcases hasU_cases h with rfl | rfl | rfl | rfl | rfl | rfl | rfl
  · show wrap64 (0 + a) = a; unfold wrap64; omega
  · show wrap64 (1 * a) = a; unfold wrap64; omega
  · show bits .and .i64 (-1) a = a
    rw [bits_and]
    have e : bv (-1) = BitVec.allOnes 64 := by decide
    rw [e, BitVec.allOnes_and, toInt_bv h0 h1]
  · show bits .or .i64 0 a = a
    rw [bits_or]
    have e : bv 0 = 0#64 := by decide
    rw [e, BitVec.zero_or, toInt_bv h0 h1]
  · show bits .xor .i64 0 a = a
    rw [bits_xor]
    have e : bv 0 = 0#64 := by decide
    rw [e, BitVec.zero_xor, toInt_bv h0 h1]
  · show minV 9223372036854775807 a = a; unfold minV; split <;> omega
  · show maxV (-9223372036854775808) a = a; unfold maxV; split <;> omega
theorem workV_unit' (op a : Int) (h : hasU op = true) (h0 : -9223372036854775808 ≤ a) (h1 : a ≤ 9223372036854775807) : workV op a (unitV op) = a := by
  rw [workV_comm op _ _ h]; exact workV_unit op a h h0 h1
theorem unitV_fits (op : Int) : -9223372036854775808 ≤ unitV op ∧ unitV op ≤ 9223372036854775807 := by
  unfold unitV; repeat' split
  all_goals omega
end Go.PlainOps
