import Derived.Test.YtiibflbfnoddmaaDoorPkAU
import Derived.Test.YtiibflbfnoddmaaDoorPkAM
import Derived.ArgAppend
import Derived.Laws.OwnMore
import Derived.Test.YtiibflbfnoddmaaDoorPkAK
/-! The statements' own 'wiped' and 'grown': a program of which only the places of its lists are told. -/
namespace Go.Proofs.YtiibflbfnoddmaaDoor
set_option linter.unusedVariables false
set_option maxRecDepth 20000
open Go.RowKit Go.HeapKit

/-- A function's list: its block, its length, its room, what it holds. -/
structure Cd where
  b : Nat
  m : Nat
  cc : Nat
  xs : List Value
def Cd.key (d : Cd) : Nat × Nat × Nat := (d.b, d.m, d.cc)
abbrev Cd.v (d : Cd) : Value := .slice (some ⟨d.b, 0, none⟩) d.m d.cc
structure Cw (lo hi : Nat) (w : World) (g n : Nat) (M : List Cd) : Prop where
  len : n = M.length
  hg : Rg lo hi g
  row : ∃ cs, w.heap[g]? = some (.cells cs 41 (0, 0)) ∧ n * 4 ≤ cs.size
  at_ : ∀ (i : Nat) d, M[i]? = some d → w.cell? ⟨g, i * 4 + 3, none⟩ = some d.v ∧ w.ownsRow 0 43 5 d.v d.m d.xs ∧ Rg lo hi d.b
  nd : ∀ (i j : Nat) d e, M[i]? = some d → M[j]? = some e → d.b = e.b → i = j
theorem Cw.kept {lo hi : Nat} {w w' : World} {g n : Nat} {M : List Cd} {S : Nat → Prop} (h : Cw lo hi w g n M) (hk : Keeps S w w') (hS : ∀ k, Rg lo hi k → k < w.heap.size → ¬ S k) : Cw lo hi w' g n M := by
  obtain ⟨cs, hcs, hsz⟩ := h.row
  refine ⟨h.len, h.hg, ⟨cs, blk_kept hcs hk (hS g h.hg (blk_lt hcs)), hsz⟩, fun i d hd => ?_, h.nd⟩
  obtain ⟨h1, h2, h3⟩ := h.at_ i d hd
  exact ⟨hk.cell h1 (hS g h.hg (blk_lt hcs)), hk.own h2 (fun q e => by
    simp [Value.ownBlock] at e
    subst e
    exact hS _ h3 (own_lt h2 rfl)), h3⟩
theorem Cw.more {lo hi : Nat} {w w' : World} {g n : Nat} {M : List Cd} (h : Cw lo hi w g n M) (hk : Keeps None w w') : Cw lo hi w' g n M := h.kept hk (fun _ _ _ f => f)
theorem Cw.ne {lo hi : Nat} {w : World} {g n : Nat} {M : List Cd} (h : Cw lo hi w g n M) {i : Nat} {d : Cd} (hd : M[i]? = some d) : g ≠ d.b := by
  obtain ⟨cs, hcs, hsz⟩ := h.row
  rintro rfl
  exact absurd (own_type (h.at_ i d hd).2.1 (g := d.b) rfl hcs) (by decide)
/-- A list's contents change, in its place. -/
theorem Cw.over {lo hi : Nat} {w w' : World} {g n : Nat} {M : List Cd} (h : Cw lo hi w g n M) {i : Nat} {d : Cd} (hd : M[i]? = some d) (hk : Keeps (· = d.b) w w') (xs : List Value) (ho : w'.ownsRow 0 43 5 d.v d.m xs) : Cw lo hi w' g n (M.set i { d with xs := xs }) := by
  obtain ⟨cs, hcs, hsz⟩ := h.row
  have hil := (List.getElem?_eq_some_iff.1 hd).1
  have hgd := h.ne hd
  have tell : ∀ (j : Nat) e, (M.set i { d with xs := xs })[j]? = some e → (j = i ∧ e = { d with xs := xs }) ∨ (j ≠ i ∧ M[j]? = some e) := fun j e he => by
    by_cases hji : i = j
    · subst hji
      rw [List.getElem?_set_self hil] at he
      exact .inl ⟨rfl, (Option.some.inj he).symm⟩
    · rw [List.getElem?_set_ne hji] at he
      exact .inr ⟨fun e => hji e.symm, he⟩
  refine ⟨by rw [List.length_set]; exact h.len, h.hg, ⟨cs, blk_kept hcs hk hgd, hsz⟩, fun j e he => ?_, fun j k e f he hf hb => ?_⟩
  · rcases tell j e he with ⟨rfl, rfl⟩ | ⟨hne, he⟩
    · exact ⟨hk.cell (h.at_ j d hd).1 hgd, ho, (h.at_ j d hd).2.2⟩
    · obtain ⟨h1, h2, h3⟩ := h.at_ j e he
      exact ⟨hk.cell h1 hgd, hk.own h2 (fun q eq hq => by
        simp [Value.ownBlock] at eq
        exact hne (h.nd j i e d he hd (eq.trans hq))), h3⟩
  · rcases tell j e he with ⟨h1, h1'⟩ | ⟨h1, h1'⟩
    · rcases tell k f hf with ⟨h2, h2'⟩ | ⟨h2, h2'⟩
      · omega
      · subst h1'
        exact h1.trans (h.nd i k d f hd h2' hb)
    · rcases tell k f hf with ⟨h2, h2'⟩ | ⟨h2, h2'⟩
      · subst h2'
        exact (h.nd j i e d h1' hd hb).trans h2.symm
      · exact h.nd j k e f h1' h2' hb
theorem cd_set {M : List Cd} {i : Nat} {d : Cd} (hd : M[i]? = some d) (xs : List Value) : (M.set i { d with xs := xs }).map Cd.key = M.map Cd.key := by
  apply List.ext_getElem?
  intro j
  rw [List.getElem?_map, List.getElem?_map]
  by_cases hji : i = j
  · subst hji
    rw [List.getElem?_set_self (List.getElem?_eq_some_iff.1 hd).1, hd]
    rfl
  · rw [List.getElem?_set_ne hji]
theorem cd_at {M M' : List Cd} (h : M'.map Cd.key = M.map Cd.key) {i : Nat} {d : Cd} (hd : M[i]? = some d) : ∃ e, M'[i]? = some e ∧ e.b = d.b ∧ e.m = d.m ∧ e.cc = d.cc := by
  have h1 : (M'.map Cd.key)[i]? = some d.key := by rw [h, List.getElem?_map, hd]; rfl
  rw [List.getElem?_map] at h1
  obtain ⟨e, he, hk⟩ := Option.map_eq_some_iff.1 h1
  injection hk with k1 k2
  injection k2 with k2 k3
  exact ⟨e, he, k1, k2, k3⟩
/-- An instruction is written over. -/
theorem Cw.put {lo hi : Nat} {w : World} {g n : Nat} {M : List Cd} (h : Cw lo hi w g n M) {i j : Nat} {d : Cd} (hd : M[i]? = some d) (x : Ins) : ∃ M', Cw lo hi (set5 w d.b (j * 5) x) g n M' ∧ M'.map Cd.key = M.map Cd.key := by
  obtain ⟨h1, h2, h3⟩ := h.at_ i d hd
  have := own_put (i := j * 5 + 4) (.int .i64 x.k) (own_put (i := j * 5 + 3) (.int .i64 x.c) (own_put (i := j * 5 + 2) (.int .i64 x.b) (own_put (i := j * 5 + 1) (.int .i64 x.a) (own_put (i := j * 5) (.int .i64 x.kind) h2))))
  exact ⟨_, h.over hd (set5_keeps w d.b (j * 5) x) _ this, cd_set hd _⟩
/-- A function's number is written over. -/
theorem Cw.putF {lo hi : Nat} {w : World} {g n : Nat} {M : List Cd} (h : Cw lo hi w g n M) (i : Nat) (v : Value) : Cw lo hi (w.setCell ⟨g, i * 4 + 1, none⟩ v) g n M := by
  obtain ⟨cs, hcs, hsz⟩ := h.row
  have kS : Keeps (· = g) w (w.setCell ⟨g, i * 4 + 1, none⟩ v) := Keeps.setCell (S := (· = g)) w (a := ⟨g, i * 4 + 1, none⟩) rfl _
  have hcs2 := blk_set (i := i * 4 + 1) hcs v
  refine ⟨h.len, h.hg, ⟨_, hcs2, by simpa using hsz⟩, fun j d hd => ?_, h.nd⟩
  obtain ⟨h1, h2, h3⟩ := h.at_ j d hd
  refine ⟨?_, kS.own h2 (fun q e hq => by
    simp [Value.ownBlock] at e
    exact h.ne hd (hq.symm.trans e.symm)), h3⟩
  rw [blk_cell hcs2]
  rw [blk_cell hcs] at h1
  rw [Array.getElem?_setIfInBounds_ne (by omega)]
  exact h1
theorem own_prefix {w : World} {e : TypeId} {b N c : Nat} {X : List Value} (h : w.ownsRow 0 e 5 (.slice (some ⟨b, 0, none⟩) N c) N X) {m : Nat} (hm : m ≤ N) : w.ownsRow 0 e 5 (.slice (some ⟨b, 0, none⟩) m c) m (X.take (m * 5)) := by
  rcases h.2 with ⟨e1, _⟩ | ⟨g', cap, cur, he, hb0, hg, hnc, hcm, hcs, htk⟩
  · cases e1
  · injection he with e1 e2 e3
    injection e1 with e1
    injection e1 with e1
    subst e1 e3
    refine ⟨by rw [List.length_take, h.1]; omega, .inr ⟨b, c, cur, rfl, hb0, hg, by omega, hcm, hcs, ?_⟩⟩
    rw [← htk, List.take_take]
    congr 1
    omega
/-- While others are appended behind a list: the list that grows, and the program. -/
structure Gl (lo hi : Nat) (W0 w : World) (g n : Nat) (M : List Cd) (d : Cd) (b5 c5 N : Nat) (X : List Value) : Prop where
  cw : Cw lo hi w g n M
  own : w.ownsRow 0 43 5 (.slice (some ⟨b5, 0, none⟩) N c5) N X
  pos : (b5 = d.b ∧ c5 = d.cc ∧ X.take (d.m * 5) = d.xs) ∨ (W0.heap.size ≤ b5 ∧ hi ≤ b5)
  keep : Keeps (· = d.b) W0 w
  dm : d.m ≤ N
theorem Gl.next {lo hi : Nat} {W0 w : World} {g n : Nat} {M : List Cd} {d : Cd} {b5 c5 N : Nat} {X : List Value} {i : Nat} (h : Gl lo hi W0 w g n M d b5 c5 N X) (hd : M[i]? = some d) (hhi : hi ≤ W0.heap.size) (x : Ins) (ty : TypeId) (hN : N ≤ 2000) :
    ∃ b' c' w' X', (Builtin.append_ #[39, 39] ty #[.slice (some ⟨b5, 0, none⟩) N c5, .slice (some ⟨w.heap.size, 0, none⟩) 1 1]).run Tryd.prog (w.alloc (.cells #[.int .i64 x.kind, .int .i64 x.a, .int .i64 x.b, .int .i64 x.c, .int .i64 x.k] 43)) = .ok (.slice (some ⟨b', 0, none⟩) (N + 1) c') w' ∧ Gl lo hi W0 w' g n M d b' c' (N + 1) X' := by
  obtain ⟨i0, hi0, hz0, hz1, hz2⟩ := info_parts Tryd.infoIns
  have hal := Keeps.alloc None w (.cells #[.int .i64 x.kind, .int .i64 x.a, .int .i64 x.b, .int .i64 x.c, .int .i64 x.k] 43)
  have bN := heap_alloc_new w (.cells #[.int .i64 x.kind, .int .i64 x.a, .int .i64 x.b, .int .i64 x.c, .int .i64 x.k] 43)
  obtain ⟨W1, hW1⟩ : ∃ W1, W1 = w.alloc (.cells #[.int .i64 x.kind, .int .i64 x.a, .int .i64 x.b, .int .i64 x.c, .int .i64 x.k] 43) := ⟨_, rfl⟩
  rw [← hW1] at hal bN ⊢
  have hnews : ∀ j u, (insCells x)[j]? = some u → W1.cell? ((⟨w.heap.size, 0, none⟩ : Addr).add j) = some u := fun j u hu => by
    rw [show (⟨w.heap.size, 0, none⟩ : Addr).add j = ⟨w.heap.size, j, none⟩ by unfold Addr.add; split <;> simp_all, blk_cell bN]
    simpa [insCells] using hu
  have hone : ∀ u ∈ insCells x, u.oneCell' = true := fun u hu => by
    simp [insCells] at hu
    rcases hu with rfl | rfl | rfl | rfl | rfl <;> rfl
  have ho1 := hal.own h.own (fun _ _ f => f)
  have hcw1 := h.cw.more hal
  have hk1 : Keeps (· = d.b) W0 W1 := h.keep.trans hal (fun _ f _ => f.elim)
  have hXl : X.length = N * 5 := h.own.1
  have hdm := h.dm
  by_cases hroom : N + 1 ≤ c5
  · obtain ⟨w', hr, ho, hgr⟩ := run_append_fits (P := Tryd.prog) W1 0 39 ty 43 i0 5 Tryd.underlying39 hi0 hz1 b5 N c5 X ho1 ⟨w.heap.size, 0, none⟩ 1 1 (insCells x) rfl hnews hone hroom
    have hkb : Keeps (· = b5) W1 w' := (Keeps.refl _ W1).andGrown hgr (fun k e => .inl (Option.some.inj e).symm)
    refine ⟨b5, c5, w', X ++ insCells x, hr, ?_⟩
    rcases h.pos with ⟨rfl, rfl, hx⟩ | ⟨hb, hb2⟩
    · have htk : (X ++ insCells x).take (d.m * 5) = d.xs := by rw [List.take_append_of_le_length (by omega)]; exact hx
      have hpre := own_prefix ho (m := d.m) (by omega)
      rw [htk] at hpre
      have hcw2 := hcw1.over hd hkb d.xs hpre
      rw [show M.set i { d with xs := d.xs } = M by rw [show ({ d with xs := d.xs } : Cd) = d from rfl]; exact List.ext_getElem? (fun j => by
        by_cases hji : i = j
        · subst hji; rw [List.getElem?_set_self (List.getElem?_eq_some_iff.1 hd).1, hd]
        · rw [List.getElem?_set_ne hji])] at hcw2
      exact ⟨hcw2, ho, .inl ⟨rfl, rfl, htk⟩, hk1.trans hkb (fun _ e _ => e), by omega⟩
    · exact ⟨hcw1.kept hkb (fun k hk hlt e => by have := hk.2; have e' : k = b5 := e; omega), ho, .inr ⟨hb, hb2⟩, hk1.trans hkb (fun k e hk => by have e' : k = b5 := e; omega), by omega⟩
  · have holds : ∀ j u, X[j]? = some u → W1.cell? ((⟨b5, 0, none⟩ : Addr).add j) = some u := fun j u hu => by
      rcases ho1.2 with ⟨e1, _⟩ | ⟨g', cap, cur, he, hb0, hg, hnc, hcm, hcs, htk⟩
      · cases e1
      · injection he with e1 e2 e3
        injection e1 with e1
        injection e1 with e1
        subst e1
        rw [show (⟨b5, 0, none⟩ : Addr).add j = ⟨b5, j, none⟩ by unfold Addr.add; split <;> simp_all, blk_cell hg, ← Array.getElem?_toList]
        rw [← htk, List.getElem?_take] at hu
        split at hu
        · exact hu
        · cases hu
    obtain ⟨v', w', hr, ho, hgr⟩ := run_append_arg_grows (P := Tryd.prog) W1 39 ty 43 i0 _ 5 40 Tryd.underlying39 hi0 hz0 hz1 hz2 rfl (by decide) ⟨b5, 0, none⟩ N c5 X hXl holds ⟨w.heap.size, 0, none⟩ 1 1 (insCells x) rfl hnews (by omega) (by unfold maxLen; omega) (by omega)
    have hkn : Keeps None W1 w' := (Keeps.refl _ W1).andGrown hgr (fun k e => by cases e)
    rcases ho.2 with ⟨_, h0⟩ | ⟨g', cap, cur, rfl, hb0, hg, hnc, hcm, hcs, htk⟩
    · omega
    · refine ⟨g', cap, w', X ++ insCells x, hr, hcw1.more hkn, ⟨ho.1, .inr ⟨g', cap, cur, rfl, Nat.zero_le _, hg, hnc, hcm, hcs, htk⟩⟩, .inr ?_, hk1.trans hkn (fun _ f _ => f.elim), by omega⟩
      have := hk1.size
      omega
set_option maxHeartbeats 2000000 in
theorem wiped_any (lo hi g n c : Nat) (M : List Cd) (w : World) (hM : Cw lo hi w g n M) (hhi : hi ≤ w.heap.size) (hn : n ≤ 100) (hm : ∀ d ∈ M, d.m ≤ 1000) :
    Calls Tryd.prog 12 #[.agg #[.slice (some ⟨g, 0, none⟩) n c]] w fun e w' => e = .returned (.tuple #[]) ∧ (∃ M', Cw lo hi w' g n M' ∧ M'.map Cd.key = M.map Cd.key) ∧ Keeps (Rg lo hi) w w' := by
  obtain ⟨B, hB⟩ : ∃ B, B = w.heap.size := ⟨_, rfl⟩
  have p1 := heap_alloc_new w (.cells #[.slice (some ⟨g, 0, none⟩) n c] 24)
  have hk1 := Keeps.alloc None w (.cells #[.slice (some ⟨g, 0, none⟩) n c] 24)
  obtain ⟨w2, hw2⟩ : ∃ w2, w2 = w.alloc (.cells #[.slice (some ⟨g, 0, none⟩) n c] 24) := ⟨_, rfl⟩
  rw [← hw2] at p1 hk1
  rw [← hB] at p1
  have H0 : Hid (Cw lo hi w2 g n M ∧ w2.heap[B]? = some (.cells #[.slice (some ⟨g, 0, none⟩) n c] 24 (0, 0)) ∧ Keeps (Rg lo hi) w w2 ∧ M.map Cd.key = M.map Cd.key) := ⟨hM.more hk1, p1, hk1.mono (fun _ f _ => f.elim), rfl⟩
  have HC : Hid (n = M.length ∧ (∀ d ∈ M, d.m ≤ 1000) ∧ hi ≤ B) := ⟨hM.len, hm, by omega⟩
  have hnb : (n : Int) ≤ 100 := by omega
  clear hM hm hhi p1 hk1
  go_enter Tryd.func12, Tryd.ntmps12
  go_upto_region 1 with fail
  rw [← hw2, ← hB]
  clear hw2 hB
  go_wp2_with fail
  go_loopw [2] (fun s2 wr => ∃ (k : Nat) (M' : List Cd), k ≤ n ∧ s2 = .int .i64 k ∧ Cw lo hi wr g n M' ∧ wr.heap[B]? = some (.cells #[.slice (some ⟨g, 0, none⟩) n c] 24 (0, 0)) ∧ Keeps (Rg lo hi) w wr ∧ M'.map Cd.key = M.map Cd.key) (fun i _ => n - (intOf i).toNat)
  case atStart => exact ⟨0, M, Nat.zero_le _, rfl, H0.out.1, H0.out.2.1, H0.out.2.2.1, rfl⟩
  case round =>
    obtain ⟨k, M1, hk, rfl, hm1, hp1, hkw, hMx⟩ := hrel
    have d1 : wr.cell? ⟨B, 0, none⟩ = some (.slice (some ⟨g, 0, none⟩) n c) := (cell_of_heap hp1 0).trans rfl
    by_cases hkn : k < n
    · obtain ⟨d, hd⟩ : ∃ d, M[k]? = some d := ⟨M[k]'(by have := HC.out.1; omega), by simp⟩
      have i1 : (k : Int) < (n : Int) := by omega
      have i0 : (0 : Int) ≤ (k : Int) := by omega
      have hmb := HC.out.2.1 d (List.mem_of_getElem? hd)
      obtain ⟨m, hm⟩ : ∃ m, m = d.m := ⟨_, rfl⟩
      rw [← hm] at hmb
      have HK : Hid (Cw lo hi wr g n M1 ∧ wr.heap[B]? = some (.cells #[.slice (some ⟨g, 0, none⟩) n c] 24 (0, 0)) ∧ Keeps (Rg lo hi) w wr ∧ M1.map Cd.key = M.map Cd.key) := ⟨hm1, hp1, hkw, hMx⟩
      have HAT : Hid (M[k]? = some d ∧ m = d.m) := ⟨hd, hm⟩
      clear hm1 hp1 hkw hMx hd hm H0
      go_wp2_with fail
      clear d1
      go_loopw [3] (fun s3 wr => ∃ (j : Nat) (M' : List Cd), j ≤ m ∧ s3 = .int .i64 j ∧ Cw lo hi wr g n M' ∧ wr.heap[B]? = some (.cells #[.slice (some ⟨g, 0, none⟩) n c] 24 (0, 0)) ∧ Keeps (Rg lo hi) w wr ∧ M'.map Cd.key = M.map Cd.key) (fun i _ => m - (intOf i).toNat)
      case atStart => exact ⟨0, M1, Nat.zero_le _, rfl, HK.out⟩
      case round =>
        obtain ⟨j, M2, hj, rfl, hm2, hp1, hkw, hMx⟩ := hrel
        have d0 : wr.cell? ⟨B, 0, none⟩ = some (.slice (some ⟨g, 0, none⟩) n c) := (cell_of_heap hp1 0).trans rfl
        obtain ⟨e, he, e1, e2, e3⟩ := cd_at hMx HAT.out.1
        obtain ⟨y3, hown, hRb⟩ := hm2.at_ k e he
        obtain ⟨cs, hcs, hsz⟩ := hm2.row
        have ee : e.v = .slice (some ⟨e.b, 0, none⟩) m e.cc := by unfold Cd.v; rw [e2, ← HAT.out.2]
        rw [ee] at y3
        by_cases hjm : j < m
        · have i2 : (j : Int) < (m : Int) := by omega
          have hblk : ∃ cur, wr.heap[e.b]? = some (.cells cur 43 (0, 0)) ∧ m * 5 ≤ cur.size := by
            rcases hown.2 with ⟨h1, _⟩ | ⟨g', cap, cur, h1, hb0, hg', hnc, hcm, hcsz, htk⟩
            · cases h1
            · injection h1 with h1 h2 h3
              injection h1 with h1
              injection h1 with h1
              rw [h1]
              exact ⟨cur, hg', by rw [hcsz]; have := HAT.out.2; omega⟩
          obtain ⟨cur, hcur, hcz⟩ := hblk
          have hcell : ∀ o, o < 5 → ∃ u, wr.cell? ⟨e.b, j * 5 + o, none⟩ = some u := fun o ho => ⟨cur[j * 5 + o]'(by omega), by rw [blk_cell hcur]; simp⟩
          obtain ⟨u0, x0⟩ := hcell 0 (by omega)
          obtain ⟨u1, x1⟩ := hcell 1 (by omega)
          obtain ⟨u2, x2⟩ := hcell 2 (by omega)
          obtain ⟨u3, x3⟩ := hcell 3 (by omega)
          obtain ⟨u4, x4⟩ := hcell 4 (by omega)
          rw [Nat.add_zero] at x0
          have t0 := blk_free hcur (j * 5)
          have t1 := blk_free hcur (j * 5 + 1)
          have t2 := blk_free hcur (j * 5 + 2)
          have t3 := blk_free hcur (j * 5 + 3)
          have t4 := blk_free hcur (j * 5 + 4)
          obtain ⟨M3, hput, hM3⟩ := hm2.put (j := j) he ⟨-1, k, j, 0, 0⟩
          have hk5 := set5_keeps wr e.b (j * 5) ⟨-1, k, j, 0, 0⟩
          have hne1 : ¬ B = e.b := by have := hRb.2; have := HC.out.2.2; omega
          have HQ : Hid (Cw lo hi (set5 wr e.b (j * 5) ⟨-1, k, j, 0, 0⟩) g n M3 ∧ (set5 wr e.b (j * 5) ⟨-1, k, j, 0, 0⟩).heap[B]? = some (.cells #[.slice (some ⟨g, 0, none⟩) n c] 24 (0, 0)) ∧ Keeps (Rg lo hi) w (set5 wr e.b (j * 5) ⟨-1, k, j, 0, 0⟩) ∧ M3.map Cd.key = M.map Cd.key) := ⟨hput, blk_kept hp1 hk5 hne1, hkw.trans hk5 (fun i e' hi => by subst e'; exact hRb), hM3.trans hMx⟩
          generalize e.b = eb at *
          generalize e.cc = ec at *
          clear hm2 hp1 hkw hMx he e1 e2 e3 hown hRb hcs hsz cs ee hcur hcz hcell hput hM3 hk5 hne1
          go_wp2_with fail
          exact ⟨⟨j + 1, M3, by omega, by simp, HQ.out⟩, by simp [intOf]; omega⟩
        · have i2 : ¬ (j : Int) < (m : Int) := by omega
          obtain ⟨v1, c1⟩ : ∃ v, wr.cell? ⟨g, k * 4 + 1, none⟩ = some v := ⟨cs[k * 4 + 1]'(by omega), by rw [blk_cell hcs]; simp⟩
          have t1 := blk_free hcs (k * 4 + 1)
          have hput := hm2.putF k (.int .i64 (-1))
          have kS : Keeps (· = g) wr (wr.setCell ⟨g, k * 4 + 1, none⟩ (.int .i64 (-1))) := Keeps.setCell (S := (· = g)) wr (a := ⟨g, k * 4 + 1, none⟩) rfl _
          have hRg := hm2.hg
          have hne1 : ¬ B = g := by have := hRg.2; have := HC.out.2.2; omega
          have HQ : Hid (Cw lo hi (wr.setCell ⟨g, k * 4 + 1, none⟩ (.int .i64 (-1))) g n M2 ∧ (wr.setCell ⟨g, k * 4 + 1, none⟩ (.int .i64 (-1))).heap[B]? = some (.cells #[.slice (some ⟨g, 0, none⟩) n c] 24 (0, 0)) ∧ Keeps (Rg lo hi) w (wr.setCell ⟨g, k * 4 + 1, none⟩ (.int .i64 (-1))) ∧ M2.map Cd.key = M.map Cd.key) := ⟨hput, blk_kept hp1 kS hne1, hkw.trans kS (fun i e' hi => by subst e'; exact hRg), hMx⟩
          generalize e.b = eb at *
          generalize e.cc = ec at *
          clear hm2 hp1 hkw hMx he e1 e2 e3 hown hRb hcs hsz cs ee hput kS hRg hne1
          go_wp2_with fail
          exact ⟨⟨k + 1, M2, by omega, by simp, HQ.out⟩, by simp [intOf]; omega⟩
    · have hkn2 : k = n := by omega
      subst hkn2
      have i1 : ¬ (k : Int) < (k : Int) := by omega
      have HQ : Hid ((∃ M', Cw lo hi wr g k M' ∧ M'.map Cd.key = M.map Cd.key) ∧ Keeps (Rg lo hi) w wr) := ⟨⟨M1, hm1, hMx⟩, hkw⟩
      clear hm1 hp1 hkw hMx H0
      go_wp2_with fail
      go_end0
      exact ⟨rfl, HQ.out⟩
set_option maxHeartbeats 2000000 in
theorem grown_any (lo hi g n c : Nat) (M : List Cd) (w : World) (hM : Cw lo hi w g n M) (hhi : hi ≤ w.heap.size) (hn : n ≤ 100) (hm : ∀ d ∈ M, d.m ≤ 1000) :
    Calls Tryd.prog 13 #[.agg #[.slice (some ⟨g, 0, none⟩) n c]] w fun e w' => (∃ t : Nat, e = .returned (.int .i64 t) ∧ t ≤ 200000 ∧ n ≤ t) ∧ Cw lo hi w' g n M ∧ Keeps (fun k => ∃ (i : Nat) (d : Cd), M[i]? = some d ∧ d.b = k) w w' := by
  obtain ⟨B, hB⟩ : ∃ B, B = w.heap.size := ⟨_, rfl⟩
  have p1 := heap_alloc_new w (.cells #[.slice (some ⟨g, 0, none⟩) n c] 24)
  have hk1 := Keeps.alloc None w (.cells #[.slice (some ⟨g, 0, none⟩) n c] 24)
  obtain ⟨w2, hw2⟩ : ∃ w2, w2 = w.alloc (.cells #[.slice (some ⟨g, 0, none⟩) n c] 24) := ⟨_, rfl⟩
  rw [← hw2] at p1 hk1
  rw [← hB] at p1
  obtain ⟨S, hS⟩ : ∃ S : Nat → Prop, S = fun k => ∃ (i : Nat) (d : Cd), M[i]? = some d ∧ d.b = k := ⟨_, rfl⟩
  rw [← hS]
  have H0 : Hid (Cw lo hi w2 g n M ∧ w2.heap[B]? = some (.cells #[.slice (some ⟨g, 0, none⟩) n c] 24 (0, 0)) ∧ Keeps S w w2) := ⟨hM.more hk1, p1, hk1.mono (fun _ f _ => f.elim)⟩
  have HC : Hid (n = M.length ∧ (∀ d ∈ M, d.m ≤ 1000) ∧ hi ≤ B ∧ (∀ (i : Nat) (d : Cd), M[i]? = some d → S d.b) ∧ ∀ (i : Nat) (d : Cd), M[i]? = some d → Rg lo hi d.b) := ⟨hM.len, hm, by omega, fun i d hd => by rw [hS]; exact ⟨i, d, hd, rfl⟩, fun i d hd => (hM.at_ i d hd).2.2⟩
  have hnb : (n : Int) ≤ 100 := by omega
  clear hM hm hhi p1 hk1 hS
  go_enter Tryd.func13, Tryd.ntmps13
  go_upto_region 1 with fail
  rw [← hw2, ← hB]
  clear hw2 hB
  go_wp2_with fail
  go_loopw [3, 4] (fun s3 s4 wr => ∃ (k t : Nat), k ≤ n ∧ s4 = .int .i64 k ∧ s3 = .int .i64 t ∧ t ≤ k * 2000 ∧ k ≤ t ∧ Cw lo hi wr g n M ∧ wr.heap[B]? = some (.cells #[.slice (some ⟨g, 0, none⟩) n c] 24 (0, 0)) ∧ Keeps S w wr) (fun _ i _ => n - (intOf i).toNat)
  case atStart => exact ⟨0, 0, Nat.zero_le _, rfl, rfl, Nat.le_refl _, Nat.le_refl _, H0.out⟩
  case round =>
    obtain ⟨k, t, hk, rfl, rfl, ht1, ht2, hm1, hp1, hkw⟩ := hrel
    have d1 : wr.cell? ⟨B, 0, none⟩ = some (.slice (some ⟨g, 0, none⟩) n c) := (cell_of_heap hp1 0).trans rfl
    by_cases hkn : k < n
    · obtain ⟨d, hd⟩ : ∃ d, M[k]? = some d := ⟨M[k]'(by have := HC.out.1; omega), by simp⟩
      have i1 : (k : Int) < (n : Int) := by omega
      have i0 : (0 : Int) ≤ (k : Int) := by omega
      have hmb := HC.out.2.1 d (List.mem_of_getElem? hd)
      obtain ⟨y3, hown, hRb⟩ := hm1.at_ k d hd
      obtain ⟨cs, hcs, hsz⟩ := hm1.row
      have hHB : hi ≤ wr.heap.size := by have := HC.out.2.2.1; have := blk_lt hp1; omega
      have HK : Hid (Gl lo hi wr wr g n M d d.b d.cc d.m d.xs ∧ wr.heap[B]? = some (.cells #[.slice (some ⟨g, 0, none⟩) n c] 24 (0, 0)) ∧ Keeps S w wr) := ⟨⟨hm1, hown, .inl ⟨rfl, rfl, by rw [List.take_of_length_le (by rw [hown.1]; omega)]⟩, Keeps.refl _ _, Nat.le_refl _⟩, hp1, hkw⟩
      have HAT : Hid (M[k]? = some d ∧ hi ≤ wr.heap.size ∧ ¬ B = d.b) := ⟨hd, hHB, by have := hRb.2; have := HC.out.2.2.1; omega⟩
      unfold Cd.v at y3
      obtain ⟨m, hm⟩ : ∃ m, m = d.m := ⟨_, rfl⟩
      obtain ⟨db, hdb⟩ : ∃ b, b = d.b := ⟨_, rfl⟩
      obtain ⟨dc, hdc⟩ : ∃ b, b = d.cc := ⟨_, rfl⟩
      rw [← hm, ← hdb, ← hdc] at y3
      rw [← hm] at hmb
      have HD : Hid (m = d.m ∧ db = d.b ∧ dc = d.cc) := ⟨hm, hdb, hdc⟩
      have HT : Hid (t ≤ k * 2000 ∧ k ≤ t) := ⟨ht1, ht2⟩
      have i8 : (t : Int) ≤ 200000 := by omega
      obtain ⟨w0, hw0⟩ : ∃ w0, w0 = wr := ⟨_, rfl⟩
      have HW0 : Hid (Gl lo hi w0 w0 g n M d d.b d.cc d.m d.xs ∧ w0.heap[B]? = some (.cells #[.slice (some ⟨g, 0, none⟩) n c] 24 (0, 0)) ∧ Keeps S w w0 ∧ hi ≤ w0.heap.size) := by rw [hw0]; exact ⟨HK.out.1, HK.out.2.1, HK.out.2.2, hHB⟩
      clear hm1 hp1 hkw hd H0 hown hRb hcs hsz cs hHB hm hdb hdc ht1 ht2
      go_wp2_with fail
      rw [← hw0]
      clear d1 y3 hw0 HK
      go_loopw [5, 6] (fun s5 s6 wx => ∃ (j b5 c5 : Nat) (X : List Value), j ≤ 40 ∧ s6 = .int .i64 j ∧ s5 = .slice (some ⟨b5, 0, none⟩) (m + j) c5 ∧ Gl lo hi w0 wx g n M d b5 c5 (m + j) X) (fun _ i _ => 40 - (intOf i).toNat)
      case atStart => exact ⟨0, db, dc, d.xs, by omega, rfl, rfl, by rw [HD.out.1, HD.out.2.1, HD.out.2.2]; exact HW0.out.1⟩
      case round =>
        obtain ⟨j, b5, c5, X, hj, rfl, rfl, hG⟩ := hrel
        by_cases hjm : j < 40
        · have i2 : (j : Int) < (40 : Int) := by omega
          obtain ⟨b', c', w', X', hr, hG'⟩ := hG.next HAT.out.1 HW0.out.2.2.2 ⟨-2, k, j, 0, 0⟩ 39 (by omega)
          have HG : Hid _ := hG'
          clear hG hG'
          go_wp2_with (at_builtin; refine wpList_append_run rfl (.tmp 24) (.tmp 28) 39 39 rfl rfl rfl hr ?_)
          exact ⟨⟨j + 1, b', c', X', by omega, by simp, rfl, HG.out⟩, by simp [intOf]; omega⟩
        · have i2 : ¬ (j : Int) < (40 : Int) := by omega
          obtain rfl : j = 40 := by omega
          have hkp := hG.keep
          have HQ : Hid (Cw lo hi wr g n M ∧ wr.heap[B]? = some (.cells #[.slice (some ⟨g, 0, none⟩) n c] 24 (0, 0)) ∧ Keeps S w wr) := ⟨hG.cw, blk_kept HW0.out.2.1 hkp HAT.out.2.2, HW0.out.2.2.1.trans hkp (fun i e hi => by have e' : i = d.b := e; rw [e']; exact HC.out.2.2.2.1 k d HAT.out.1)⟩
          have hT := HT.out
          have HT2 : Hid (t + (m + 40) ≤ (k + 1) * 2000 ∧ k + 1 ≤ t + (m + 40)) := ⟨by omega, by omega⟩
          clear hG hkp hT
          go_wp2_with fail
          exact ⟨⟨k + 1, t + (m + 40), by omega, by simp, by simp, HT2.out.1, HT2.out.2, HQ.out⟩, by simp [intOf]; omega⟩
    · have hkn2 : k = n := by omega
      subst hkn2
      have i1 : ¬ (k : Int) < (k : Int) := by omega
      have HQ : Hid ((t ≤ 200000 ∧ k ≤ t) ∧ Cw lo hi wr g k M ∧ Keeps S w wr) := ⟨⟨by omega, ht2⟩, hm1, hkw⟩
      clear hm1 hp1 hkw H0 ht1 ht2
      go_wp2_with fail
      go_ret
      exact ⟨⟨t, rfl, HQ.out.1.1, HQ.out.1.2⟩, HQ.out.2⟩
/-- A program with marks, as its lists lie. -/
theorem Mp.cw {lo hi : Nat} {w : World} {l : List Fn} {g : Nat} {c : Nat} {tv : List At} (h : Mp lo hi w l (some ⟨g, 0, none⟩) c tv) : ∃ M, Cw lo hi w g l.length M ∧ M.map (·.m) = l.map (·.code.length) := by
  have hat : ∀ (i : Nat) f, l[i]? = some f → ∃ b cc, tv[i]? = some (some ⟨b, 0, none⟩, cc) ∧ w.cell? ⟨g, i * 4 + 3, none⟩ = some (.slice (some ⟨b, 0, none⟩) f.code.length cc) ∧ w.ownsRow 0 43 5 (.slice (some ⟨b, 0, none⟩) f.code.length cc) f.code.length (insVals f.code) ∧ Rg lo hi b := fun i f hf => by
    obtain ⟨g', b, cc, e', hti, hfa, hRb, hRg, hcc, hfr, hown, hins⟩ := h.at hf
    injection e' with e'
    injection e' with e'
    subst e'
    refine ⟨b, cc, hti, hfa.code, ?_, hRb⟩
    have := own_prefix hown (m := f.code.length) (by omega)
    rw [insVals_append, List.take_append_of_le_length (by rw [insVals_length]; omega), List.take_of_length_le (by rw [insVals_length]; omega)] at this
    exact this
  have hrow : ∃ cs, w.heap[g]? = some (.cells cs 41 (0, 0)) ∧ l.length * 4 ≤ cs.size := by
    rcases h.rm.row.2 with ⟨_, h0⟩ | ⟨g', cap, cur, he, hb, hg, hn, hm, hc, ht⟩
    · omega
    · injection he with e1 e2 e3
      injection e1 with e1
      injection e1 with e1
      subst e1
      exact ⟨cur, hg, by omega⟩
  refine ⟨List.zipWith (fun (f : Fn) (t : At) => ⟨(At.blk t).getD 0, f.code.length, t.2, insVals f.code⟩) l tv, ⟨by rw [List.length_zipWith, h.rm.len]; omega, h.low g rfl, hrow, fun i d hd => ?_, fun i j d e hd he hb => ?_⟩, ?_⟩
  · rw [List.getElem?_zipWith] at hd
    cases hf : l[i]? with
    | none => rw [hf] at hd; simp at hd
    | some f =>
      obtain ⟨b, cc, ht, h1, h2, h3⟩ := hat i f hf
      rw [hf, ht] at hd
      simp [At.blk, Value.ownBlock] at hd
      subst hd
      exact ⟨h1, h2, h3⟩
  · rw [List.getElem?_zipWith] at hd he
    cases hf : l[i]? with
    | none => rw [hf] at hd; simp at hd
    | some f =>
      cases hf2 : l[j]? with
      | none => rw [hf2] at he; simp at he
      | some f2 =>
        obtain ⟨b, cc, ht, h1, h2, h3⟩ := hat i f hf
        obtain ⟨b2, cc2, ht2, h12, h22, h32⟩ := hat j f2 hf2
        rw [hf, ht] at hd
        rw [hf2, ht2] at he
        simp [At.blk, Value.ownBlock] at hd he
        subst hd he
        simp only at hb
        subst hb
        exact h.nd i j _ _ b ht ht2 rfl rfl
  · apply List.ext_getElem?
    intro i
    rw [List.getElem?_map, List.getElem?_map, List.getElem?_zipWith]
    cases hf : l[i]? with
    | none => rfl
    | some f =>
      obtain ⟨b, cc, ht, _⟩ := hat i f hf
      rw [ht]
      rfl
/-- A list of functions that is a call's own, as its lists lie. -/
theorem OwnF.cw {w : World} {base g n c : Nat} {L : List (Fn × Value)} (h : OwnF w base (.slice (some ⟨g, 0, none⟩) n c) L) (hn : n = L.length) (hc : ∀ x ∈ L, 1 ≤ x.1.code.length) :
    ∃ M, Cw base w.heap.size w g n M ∧ ∀ (i : Nat) x, L[i]? = some x → ∃ d, M[i]? = some d ∧ d.v = x.2 ∧ d.m = x.1.code.length ∧ d.xs = codeC x.1.code := by
  subst hn
  have hrow : base ≤ g ∧ ∃ cs, w.heap[g]? = some (.cells cs 41 (0, 0)) ∧ L.length * 4 ≤ cs.size ∧ cs.toList.take (L.length * 4) = fnsC L := by
    rcases h.row.2 with ⟨e, _⟩ | ⟨g', cap, cur, he, hb, hg, hn, hm, hc, ht⟩
    · cases e
    · injection he with e1 e2 e3
      injection e1 with e1
      injection e1 with e1
      subst e1
      exact ⟨hb, cur, hg, by omega, ht⟩
  obtain ⟨hgb, cs, hcs, hsz, htk⟩ := hrow
  have hat : ∀ (i : Nat) x, L[i]? = some x → ∃ b cc, x.2 = .slice (some ⟨b, 0, none⟩) x.1.code.length cc ∧ base ≤ b ∧ b < w.heap.size ∧ w.ownsRow 0 43 5 x.2 x.1.code.length (codeC x.1.code) ∧ w.cell? ⟨g, i * 4 + 3, none⟩ = some x.2 := fun i x hx => by
    have hox := h.codes x (List.mem_of_getElem? hx)
    have hl := hc x (List.mem_of_getElem? hx)
    have hcell : w.cell? ⟨g, i * 4 + 3, none⟩ = some x.2 := by
      have h1 := fnsC_at L i x hx 3 x.2 rfl
      rw [blk_cell hcs, ← Array.getElem?_toList]
      rw [← htk, List.getElem?_take] at h1
      split at h1
      · exact h1
      · cases h1
    rcases hox.2 with ⟨_, h0⟩ | ⟨b, cap, cur, he, hb, hg, hn, hm, hc', ht⟩
    · omega
    · exact ⟨b, cap, he, hb, blk_lt hg, (hox.low (Nat.zero_le _)), hcell⟩
  refine ⟨L.map (fun x => ⟨(x.2.ownBlock).getD 0, x.1.code.length, (match x.2 with | .slice _ _ cc => cc | _ => 0), codeC x.1.code⟩), ⟨by simp, ⟨hgb, blk_lt hcs⟩, ⟨cs, hcs, hsz⟩, fun i d hd => ?_, fun i j d e hd he hb => ?_⟩, fun i x hx => ?_⟩
  · rw [List.getElem?_map] at hd
    obtain ⟨x, hx, rfl⟩ := Option.map_eq_some_iff.1 hd
    obtain ⟨b, cc, e, h1, h2, h3, h4⟩ := hat i x hx
    rw [e] at h3 h4
    simp only [Cd.v, e, Value.ownBlock, Option.getD_some]
    exact ⟨h4, h3, h1, h2⟩
  · rw [List.getElem?_map] at hd he
    obtain ⟨x, hx, rfl⟩ := Option.map_eq_some_iff.1 hd
    obtain ⟨y, hy, rfl⟩ := Option.map_eq_some_iff.1 he
    obtain ⟨b, cc, e, _⟩ := hat i x hx
    obtain ⟨b2, cc2, e2, _⟩ := hat j y hy
    simp only [e, e2, Value.ownBlock, Option.getD_some] at hb
    have hnd := List.pairwise_iff_getElem.1 h.nd
    have hxi := List.getElem?_eq_some_iff.1 hx
    have hyj := List.getElem?_eq_some_iff.1 hy
    obtain ⟨hi, hxi⟩ := hxi
    obtain ⟨hj, hyj⟩ := hyj
    have e1b : x.2.ownBlock = some b := by rw [e]; rfl
    have e2b : y.2.ownBlock = some b := by rw [e2, hb]; rfl
    rcases Nat.lt_trichotomy i j with hlt | heq | hgt
    · exact absurd (by rw [hyj]; exact e2b) (hnd i j hi hj hlt b (by rw [hxi]; exact e1b))
    · exact heq
    · exact absurd (by rw [hxi]; exact e1b) (hnd j i hj hi hgt b (by rw [hyj]; exact e2b))
  · obtain ⟨b, cc, e, _⟩ := hat i x hx
    refine ⟨_, by rw [List.getElem?_map, hx]; rfl, ?_, rfl, rfl⟩
    simp only [Cd.v, e, Value.ownBlock, Option.getD_some]
/-- Behind 'grown' it holds what it held. -/
theorem OwnF.grown {w w' : World} {base g n c hi lo : Nat} {L : List (Fn × Value)} {M : List Cd} (h : OwnF w base (.slice (some ⟨g, 0, none⟩) n c) L) (hM : ∀ (i : Nat) x, L[i]? = some x → ∃ d, M[i]? = some d ∧ d.v = x.2 ∧ d.m = x.1.code.length ∧ d.xs = codeC x.1.code) (hw : Cw lo hi w g n M) (hc : Cw lo hi w' g n M) (hk : Keeps (fun k => ∃ (i : Nat) (d : Cd), M[i]? = some d ∧ d.b = k) w w') : OwnF w' base (.slice (some ⟨g, 0, none⟩) n c) L := by
  refine ⟨hk.own h.row (fun q e hq => ?_), fun x hx => ?_, h.nd⟩
  · simp [Value.ownBlock] at e
    subst e
    obtain ⟨i, d, hd, hb⟩ := hq
    exact hw.ne hd hb.symm
  · obtain ⟨i, hx⟩ := List.getElem?_of_mem hx
    obtain ⟨d, hd, h1, h2, h3⟩ := hM i x hx
    obtain ⟨_, ho, _⟩ := hc.at_ i d hd
    have hox := h.codes x (List.mem_of_getElem? hx)
    rw [h1, h2, h3] at ho
    refine ⟨ho.1, ?_⟩
    rcases ho.2 with ⟨e, e0⟩ | ⟨b, cap, cur, he, hb, r⟩
    · exact .inl ⟨e, e0⟩
    · exact .inr ⟨b, cap, cur, he, (hox.base (g := b) (by rw [he]; rfl)).1, r⟩
end Go.Proofs.YtiibflbfnoddmaaDoor
/-! A program laid with marks behind its lists: the walk of 'copied'. -/
namespace Go.Proofs.YtiibflbfnoddmaaDoor
set_option linter.unusedVariables false
set_option maxRecDepth 20000
open Go.RowKit Go.HeapKit

def MarkPost (w : World) (l : List Fn) (n : Nat) (e : Ending) (w' : World) : Prop := ∃ a c tv, e = .returned (.agg #[.slice a n c]) ∧ Mp w.heap.size w'.heap.size w' l a c tv ∧ Keeps None w w'
set_option maxHeartbeats 4000000 in
theorem marked_copy (a : Option Addr) (n c : Nat) (l : List Fn) (w : World) (hS : SeenF w a n l) (hr : n * 48 ≤ 140737488351232) (hrc : ∀ f ∈ l, f.code.length * 40 ≤ 140737488351232) :
    Calls Tryd.prog 5 #[.agg #[.slice a n c]] w (MarkPost w l n) := by
  have hn := hS.len
  obtain ⟨B, hB⟩ : ∃ B, B = w.heap.size := ⟨_, rfl⟩
  obtain ⟨p1, p2⟩ := two_boxes w #[.slice a n c] #[.slice none 0 0] 24 24
  have hk2 := keeps2 w (.cells #[.slice a n c] 24) (.cells #[.slice none 0 0] 24)
  have s2 : ((w.alloc (.cells #[.slice a n c] 24)).alloc (.cells #[.slice none 0 0] 24)).heap.size = B + 2 := by rw [hB]; simp
  obtain ⟨w2, hw2⟩ : ∃ w2, w2 = (w.alloc (.cells #[.slice a n c] 24)).alloc (.cells #[.slice none 0 0] 24) := ⟨_, rfl⟩
  rw [← hw2] at p1 p2 hk2 s2
  rw [← hB] at p1 p2
  have hal := Keeps.alloc None w2 (.cells #[.slice none 0 0] 24)
  have p3 := heap_alloc_new w2 (.cells #[.slice none 0 0] 24)
  rw [s2] at p3
  have HS0 : Hid (Tm w (w2.alloc (.cells #[.slice none 0 0] 24)) B (.slice a n c) l 0 (.slice none 0 0) []) :=
    ⟨hk2.trans hal (fun _ f _ => f), blk_kept p1 hal (fun f => f), blk_kept p2 hal (fun f => f), p3, ⟨rfl, .inl ⟨rfl, rfl⟩⟩, fun i f t hf => by simp at hf, rfl, fun g e => by simp [Value.ownBlock] at e, by omega, fun i t g ht => by simp at ht, fun i j t u g ht => by simp at ht⟩
  have HC : Hid (SeenF w a n l ∧ n = l.length ∧ ∀ f ∈ l, f.code.length * 40 ≤ 140737488351232) := ⟨hS, hn, hrc⟩
  have hnb : (n : Int) ≤ 4611686018427387904 := by omega
  have HS2 : Hid _ := s2
  have HP : Hid (∀ e w', (∃ a c tv, e = .returned (.agg #[.slice a n c]) ∧ Mp w.heap.size w'.heap.size w' l a c tv ∧ Keeps None w w') → MarkPost w l n e w') := fun e w' h => h
  clear hS hn hrc p1 p2 hk2 s2 hal p3
  go_enter Tryd.func5, Tryd.ntmps5
  go_upto_region 1 with fail
  rw [← hw2, ← hB]
  clear hw2 hB
  go_upto_region 2 with fail
  rw [HS2.out]
  generalize w2.alloc (.cells #[.slice none 0 0] 24) = W at *
  go_wp2_with fail
  go_loopw [4] (fun s4 wr => ∃ (k : Nat) (qv : Value) (tv : List At), k ≤ n ∧ s4 = .int .i64 k ∧ Tm w wr B (.slice a n c) l k qv tv) (fun i _ => n - (intOf i).toNat)
  case atStart => exact ⟨0, .slice none 0 0, [], Nat.zero_le _, rfl, HS0.out⟩
  case round =>
    obtain ⟨k, qv, tv, hk, rfl, hT⟩ := hrel
    have d0 : wr.cell? ⟨B, 0, none⟩ = some (.slice a n c) := (cell_of_heap hT.box 0).trans rfl
    by_cases hkn : k < n
    · obtain ⟨b, off, f, ca, cc, rfl, hf, hat⟩ := (HC.out.1.more hT.keep).at hkn
      obtain ⟨y0, y1, y2, y3, hsn⟩ := hat
      have i1 : (k : Int) < (n : Int) := by omega
      have hrf := HC.out.2.2 f (List.mem_of_getElem? hf)
      have HT : Hid (Tm w wr B (.slice (some ⟨b, off, none⟩) n c) l k qv tv ∧ l[k]? = some f) := ⟨hT, hf⟩
      obtain ⟨m, hm⟩ : ∃ m, m = f.code.length := ⟨_, rfl⟩
      rw [← hm] at y3 hsn hrf
      have HM : Hid _ := hm
      have hal := Keeps.alloc None wr (.cells #[.int .i64 f.params, .int .i64 f.regs, .int .i64 f.slots, .slice ca m cc] 41)
      have bF := heap_alloc_new wr (.cells #[.int .i64 f.params, .int .i64 f.regs, .int .i64 f.slots, .slice ca m cc] 41)
      obtain ⟨F, hF⟩ : ∃ F, F = wr.heap.size := ⟨_, rfl⟩
      obtain ⟨W1, hW1⟩ : ∃ W1, W1 = wr.alloc (.cells #[.int .i64 f.params, .int .i64 f.regs, .int .i64 f.slots, .slice ca m cc] 41) := ⟨_, rfl⟩
      rw [← hW1] at hal bF
      rw [← hF] at bF
      obtain ⟨cv, w5, hr5, ho5, hk5, hl5⟩ := codes_copied ca m cc f.code W1 39 (hsn.more hal) hrf
      obtain ⟨ca', cc', hcv⟩ : ∃ ca' cc', cv = .slice ca' m cc' := by
        have := codes_seen (by rw [← hm]; exact ho5)
        obtain ⟨x1, x2, e, _⟩ := this
        exact ⟨x1, x2, by rw [e, hm]⟩
      subst hcv
      have hal5 := Keeps.alloc None w5 (.cells #[.int .i64 (-77), .int .i64 0, .int .i64 0, .int .i64 0, .int .i64 0] 43)
      obtain ⟨b6, c6, w6, hr6, ho6, hk6, hg6⟩ := ins_append (.slice ca' m cc') f.code markI m w5.heap.size 39 (w5.alloc (.cells #[.int .i64 (-77), .int .i64 0, .int .i64 0, .int .i64 0, .int .i64 0] 43)) hm (hal5.own ho5 (fun _ _ f => f)) (by omega) (heap_alloc_new _ _)
      have hk16 : Keeps None W1 w6 := (hk5.trans hal5 (fun _ f _ => f)).trans hk6 (fun i e hi => by have := hl5 i e; omega)
      have hc6 : m + 1 ≤ c6 := by
        rcases ho6.2 with ⟨_, h0⟩ | ⟨b', cap', cur', he', hb', hg', hn', _⟩
        · omega
        · injection he' with e1 e2 e3; omega
      have c60 : ¬ c6 = 0 := by omega
      have c61 : (m : Int) ≤ (c6 : Int) := by omega
      have bF5 := blk_kept bF hk16 (fun f => f)
      have kF : Keeps (· = F) w6 (w6.setCell ⟨F, 3, none⟩ (.slice (some ⟨b6, 0, none⟩) m c6)) := Keeps.setCell (S := (· = F)) w6 (a := ⟨F, 3, none⟩) rfl _
      have bF6 : (w6.setCell ⟨F, 3, none⟩ (.slice (some ⟨b6, 0, none⟩) m c6)).heap[F]? = some (.cells #[.int .i64 f.params, .int .i64 f.regs, .int .i64 f.slots, .slice (some ⟨b6, 0, none⟩) m c6] 41 (0, 0)) := by rw [blk_set bF5]; rfl
      have kwF : Keeps None wr (w6.setCell ⟨F, 3, none⟩ (.slice (some ⟨b6, 0, none⟩) m c6)) := ((hal.trans hk16 (fun _ f _ => f)).trans kF (fun i e hi => by omega))
      have hT6 := hT.more kwF
      have ho7 := kF.own ho6 (fun g e q => absurd (own_type ho6 e (q ▸ bF5)) (by decide))
      have d1 := hal.cell d0 (fun f => f)
      have y31 := hal.cell y3 (fun f => f)
      have d1a := (Keeps.alloc None W1 (.cells #[] 43)).cell d1 (fun f => f)
      have y3a := (Keeps.alloc None W1 (.cells #[] 43)).cell y31 (fun f => f)
      have d6 := hk16.cell d1 (fun f => f)
      have y36 := hk16.cell y31 (fun f => f)
      have hold : ∀ (i : Nat) (u : At) (g : Nat), tv[i]? = some u → u.blk = some g → g < wr.heap.size := fun i u g hu hg => (hT.cl i u g hu hg).2
      have hnewb : ∀ g, At.blk (some ⟨b6, 0, none⟩, c6) = some g → w.heap.size ≤ g ∧ wr.heap.size ≤ g ∧ g < (w6.setCell ⟨F, 3, none⟩ (.slice (some ⟨b6, 0, none⟩) m c6)).heap.size := fun g hg => by
        have e : b6 = g := by simpa [At.blk, Value.ownBlock] using hg
        subst e
        have h1 := own_lt ho7 (g := b6) rfl
        have h2 := hT.keep.size
        have h3 := hal.size
        have h4 := hk5.size
        have h5 : W1.heap.size ≤ b6 := by
          rcases hg6 with r | r
          · exact hl5 _ r
          · simp at r; omega
        exact ⟨by omega, by omega, h1⟩
      have HN : Hid ((∀ (i : Nat) (u : At) (g : Nat), tv[i]? = some u → u.blk = some g → g < wr.heap.size) ∧ ∀ g, At.blk (some ⟨b6, 0, none⟩, c6) = some g → w.heap.size ≤ g ∧ wr.heap.size ≤ g ∧ g < (w6.setCell ⟨F, 3, none⟩ (.slice (some ⟨b6, 0, none⟩) m c6)).heap.size) := ⟨hold, hnewb⟩
      have g5 : w6.cell? ⟨F, 3, none⟩ = some (.slice ca m cc) := (blk_cell bF5 3).trans rfl
      have z5 := blk_free bF5 3
      have H6 : Hid (Tm w (w6.setCell ⟨F, 3, none⟩ (.slice (some ⟨b6, 0, none⟩) m c6)) B (.slice (some ⟨b, off, none⟩) n c) l k qv tv ∧ (w6.setCell ⟨F, 3, none⟩ (.slice (some ⟨b6, 0, none⟩) m c6)).ownsRow 0 43 5 (.slice (some ⟨b6, 0, none⟩) (m + 1) c6) (m + 1) (insVals (f.code ++ [markI])) ∧ (w6.setCell ⟨F, 3, none⟩ (.slice (some ⟨b6, 0, none⟩) m c6)).heap[F]? = some (.cells #[.int .i64 f.params, .int .i64 f.regs, .int .i64 f.slots, .slice (some ⟨b6, 0, none⟩) m c6] 41 (0, 0))) := ⟨hT6, ho7, bF6⟩
      clear hT hf hsn hm hal bF bF5 kF bF6 kwF hT6 ho6 ho7 ho5 hk5 hl5 hrf hal5 hk16 hk6 hg6 hold hnewb
      go_upto_region 6 with fail
      rw [← hW1, ← hF]
      clear hW1 hF y0 y1 y2 y3 d0 d1 y31
      go_upto_region 7 with (at_builtin; refine wpList_append_run rfl (.tmp 19) (.tmp 25) 39 39 rfl rfl rfl hr5 ?_)
      clear hr5 d1a y3a
      go_upto_region 8 with (at_builtin; refine wpList_append_run rfl (.tmp 27) (.tmp 29) 39 39 rfl rfl rfl hr6 ?_)
      clear hr6
      go_upto_region 9 with fail
      clear d6 y36
      generalize w6.setCell ⟨F, 3, none⟩ (.slice (some ⟨b6, 0, none⟩) m c6) = V at *
      have q0 : V.cell? ⟨B + 2, 0, none⟩ = some qv := (cell_of_heap H6.out.1.qb 0).trans rfl
      have f0 : V.cell? ⟨F, 0, none⟩ = some (.int .i64 f.params) := (cell_of_heap H6.out.2.2 0).trans rfl
      have f1 : V.cell? ⟨F, 1, none⟩ = some (.int .i64 f.regs) := (cell_of_heap H6.out.2.2 1).trans rfl
      have f2 : V.cell? ⟨F, 2, none⟩ = some (.int .i64 f.slots) := (cell_of_heap H6.out.2.2 2).trans rfl
      have f3 : V.cell? ⟨F, 3, none⟩ = some (.slice (some ⟨b6, 0, none⟩) m c6) := (cell_of_heap H6.out.2.2 3).trans rfl
      have hal2 := Keeps.alloc None V (.cells #[.int .i64 f.params, .int .i64 f.regs, .int .i64 f.slots, .slice (some ⟨b6, 0, none⟩) m c6] 41)
      have hT7 := H6.out.1.more hal2
      have ho7 := hal2.own H6.out.2.1 (fun _ _ f => f)
      have hln := HC.out.2.1
      have hcl : (l.take k).length = k := by simp; omega
      obtain ⟨b2, cap2, w7, hrn, hoo, hkk, hgg⟩ := fn_append qv (List.zipWith tfCells (l.take k) tv) (.int .i64 f.params) (.int .i64 f.regs) (.int .i64 f.slots) (.slice (some ⟨b6, 0, none⟩) m c6) k V.heap.size 22 (V.alloc (.cells #[.int .i64 f.params, .int .i64 f.regs, .int .i64 f.slots, .slice (some ⟨b6, 0, none⟩) m c6] 41)) (by rw [List.length_zipWith, hcl, hT7.len]; omega) ⟨rfl, rfl, rfl, rfl⟩ hT7.row (by omega) (heap_alloc_new _ _)
      obtain ⟨u1, u2, hnx⟩ := hT7.next (t := (some ⟨b6, 0, none⟩, c6)) HT.out.2 (by rw [← HM.out]; exact ho7) hkk (by unfold tfCells at *; rw [← HM.out]; exact hoo) hgg HN.out.1 (fun g hg => ⟨(HN.out.2 g hg).1, (HN.out.2 g hg).2.1, Nat.lt_of_lt_of_le (HN.out.2 g hg).2.2 hal2.size⟩)
      have HX : Hid _ := hnx
      clear hnx hT7 ho7 hal2 hoo hkk hgg hcl hln g5 z5 hc6 c60 c61
      go_wp2_with (at_builtin; refine wpList_append_run rfl (.tmp 42) (.tmp 44) 22 22 rfl rfl rfl hrn ?_)
      exact ⟨⟨k + 1, _, _, by omega, by simp, HX.out⟩, by simp [intOf]; omega⟩
    · have hkn2 : k = n := by omega
      subst hkn2
      have i1 : ¬ (k : Int) < (k : Int) := by omega
      have htk : l.take k = l := List.take_of_length_le (by have := HC.out.2.1; omega)
      have q0 : wr.cell? ⟨B + 2, 0, none⟩ = some qv := (cell_of_heap hT.qb 0).trans rfl
      have hal := Keeps.alloc None wr (.cells #[.int .i64 (-77), .int .i64 0, .int .i64 0, .slice none 0 0] 41)
      have hT7 := hT.more hal
      have hlz : k = (List.zipWith tfCells (l.take k) tv).length := by have := HC.out.2.1; rw [List.length_zipWith, htk, hT.len]; omega
      obtain ⟨b2, cap2, w7, hrn, hoo, hkk, hgg⟩ := fn_append qv (List.zipWith tfCells (l.take k) tv) (.int .i64 (-77)) (.int .i64 0) (.int .i64 0) (.slice none 0 0) k wr.heap.size 22 (wr.alloc (.cells #[.int .i64 (-77), .int .i64 0, .int .i64 0, .slice none 0 0] 41)) hlz ⟨rfl, rfl, rfl, rfl⟩ hT7.row (by omega) (heap_alloc_new _ _)
      have hfun : ∀ {c : Array Value} {T : TypeId} {p : Nat}, T ≠ 41 → (wr.alloc (.cells #[.int .i64 (-77), .int .i64 0, .int .i64 0, .slice none 0 0] 41)).heap[p]? = some (.cells c T (0, 0)) → ¬ qv.ownBlock = some p := fun hT hp e => hT ((own_type hT7.row e hp).symm ▸ rfl)
      have qb7 := blk_kept hT7.qb hkk (hfun (by decide) hT7.qb)
      have bx7 := blk_kept hT7.box hkk (hfun (by decide) hT7.box)
      have rs7 := blk_kept hT7.res hkk (hfun (by decide) hT7.res)
      have hc2 : k + 1 ≤ cap2 := by
        rcases hoo.2 with ⟨_, h0⟩ | ⟨b', cap', cur', he', hb', hg', hn', _⟩
        · omega
        · injection he' with e1 e2 e3; omega
      have c60 : ¬ cap2 = 0 := by omega
      have c61 : (k : Int) ≤ (cap2 : Int) := by omega
      have hB0 := hT.hB
      have kp7 : Keeps None w w7 := hT7.keep.trans hkk (fun i e hi => by have := hT7.low i e; omega)
      have u1 : w7.cell? ⟨B + 2, 0, none⟩ = some qv := (blk_cell qb7 0).trans rfl
      have u2 := blk_free qb7 0
      -- the first store
      have k8 : Keeps (· = B + 2) w7 (w7.setCell ⟨B + 2, 0, none⟩ (.slice (some ⟨b2, 0, none⟩) (k + 1) cap2)) := Keeps.setCell (S := (· = B + 2)) w7 rfl _
      have qb8 := blk_set (i := 0) qb7 (.slice (some ⟨b2, 0, none⟩) (k + 1) cap2)
      have H8 : Hid (Keeps (· = B + 2) w7 (w7.setCell ⟨B + 2, 0, none⟩ (.slice (some ⟨b2, 0, none⟩) (k + 1) cap2)) ∧ (w7.setCell ⟨B + 2, 0, none⟩ (.slice (some ⟨b2, 0, none⟩) (k + 1) cap2)).heap[B + 2]? = some (.cells #[.slice (some ⟨b2, 0, none⟩) (k + 1) cap2] 24 (0, 0))) := ⟨k8, qb8⟩
      have HCL : Hid ((∀ (i : Nat) (t : At) (g : Nat), tv[i]? = some t → t.blk = some g → w.heap.size ≤ g ∧ g < wr.heap.size) ∧ (∀ (i j : Nat) (t u : At) (g : Nat), tv[i]? = some t → tv[j]? = some u → t.blk = some g → u.blk = some g → i = j) ∧ w.heap.size ≤ b2 ∧ wr.heap.size ≤ w7.heap.size) := ⟨hT.cl, hT.nd, by
        rcases hgg with r | r
        · exact hT.low _ r
        · have := hT.keep.size; simp at r; omega, by have := hkk.size; have := hal.size; omega⟩
      have HQ : Hid (w7.heap[B]? = some (.cells #[.slice a k c] 24 (0, 0)) ∧ w7.heap[B + 1]? = some (.cells #[.slice none 0 0] 24 (0, 0)) ∧ Keeps None w w7 ∧ w.heap.size ≤ B ∧ w7.ownsRow 0 41 4 (.slice (some ⟨b2, 0, none⟩) (k + 1) cap2) (k + 1) (List.zipWith tfCells l tv ++ [markF]).flatten ∧ (∀ (i : Nat) (f : Fn) (t : At), l[i]? = some f → tv[i]? = some t → w7.ownsRow 0 43 5 (.slice t.1 (f.code.length + 1) t.2) (f.code.length + 1) (insVals (f.code ++ [markI]))) ∧ tv.length = k ∧ w7.heap[B + 2]? = some (.cells #[qv] 24 (0, 0))) :=
        ⟨bx7, rs7, kp7, hB0, by rw [htk] at hoo; exact hoo, fun i f t hf ht => hkk.own (hT7.code i f t (by rw [htk]; exact hf) ht) (fun g e q => by
          obtain ⟨c', hc'⟩ := own_block (hT7.code i f t (by rw [htk]; exact hf) ht) e
          exact hfun (by decide) hc' q), hT.len, qb7⟩
      clear hT hT7 hal hlz hoo hkk hgg hfun qb7 bx7 rs7 hc2 hB0 kp7 k8 qb8 htk
      go_upto_region 11 with (at_builtin; refine wpList_append_run rfl (.tmp 48) (.tmp 50) 22 22 rfl rfl rfl hrn ?_)
      clear hrn q0 u1 u2 d0
      generalize w7.setCell ⟨B + 2, 0, none⟩ (.slice (some ⟨b2, 0, none⟩) (k + 1) cap2) = w8 at *
      have q8 : w8.cell? ⟨B + 2, 0, none⟩ = some (.slice (some ⟨b2, 0, none⟩) (k + 1) cap2) := (cell_of_heap H8.out.2 0).trans rfl
      have z8 := blk_free H8.out.2 0
      have bx8 := blk_kept HQ.out.1 H8.out.1 (by omega)
      have rs8 := blk_kept HQ.out.2.1 H8.out.1 (by omega)
      have d8 : w8.cell? ⟨B, 0, none⟩ = some (.slice a k c) := (cell_of_heap bx8 0).trans rfl
      have k9 : Keeps (· = B + 2) w8 (w8.setCell ⟨B + 2, 0, none⟩ (.slice (some ⟨b2, 0, none⟩) k cap2)) := Keeps.setCell (S := (· = B + 2)) w8 rfl _
      have qb9 := blk_set (i := 0) H8.out.2 (.slice (some ⟨b2, 0, none⟩) k cap2)
      have H9 : Hid (Keeps (· = B + 2) w8 (w8.setCell ⟨B + 2, 0, none⟩ (.slice (some ⟨b2, 0, none⟩) k cap2)) ∧ (w8.setCell ⟨B + 2, 0, none⟩ (.slice (some ⟨b2, 0, none⟩) k cap2)).heap[B + 2]? = some (.cells #[.slice (some ⟨b2, 0, none⟩) k cap2] 24 (0, 0)) ∧ w8.heap[B + 1]? = some (.cells #[.slice none 0 0] 24 (0, 0))) := ⟨k9, qb9, rs8⟩
      clear k9 qb9 rs8 bx8
      go_upto_region 12 with fail
      clear q8 z8 d8 c60 c61
      generalize w8.setCell ⟨B + 2, 0, none⟩ (.slice (some ⟨b2, 0, none⟩) k cap2) = w9 at *
      have q9 : w9.cell? ⟨B + 2, 0, none⟩ = some (.slice (some ⟨b2, 0, none⟩) k cap2) := (cell_of_heap H9.out.2.1 0).trans rfl
      have rs9 := blk_kept H9.out.2.2 H9.out.1 (by omega)
      have r0 : w9.cell? ⟨B + 1, 0, none⟩ = some (.slice none 0 0) := (cell_of_heap rs9 0).trans rfl
      have z0 := blk_free rs9 0
      have kS : Keeps (· = B + 1) w9 (w9.setCell ⟨B + 1, 0, none⟩ (.slice (some ⟨b2, 0, none⟩) k cap2)) := Keeps.setCell (S := (· = B + 1)) w9 rfl _
      have rsS := blk_set (i := 0) rs9 (.slice (some ⟨b2, 0, none⟩) k cap2)
      have hty : ∀ (T : TypeId) (z : Nat) (v : Value) (m : Nat) (xs : List Value), T ≠ 24 → w7.ownsRow 0 T z v m xs → (w9.setCell ⟨B + 1, 0, none⟩ (.slice (some ⟨b2, 0, none⟩) k cap2)).ownsRow 0 T z v m xs := fun T z v m xs hT hv => by
        have h8 := H8.out.1.own hv (fun g e q => hT (own_type hv e (q ▸ HQ.out.2.2.2.2.2.2.2)))
        have h9 := H9.out.1.own h8 (fun g e q => hT (own_type h8 e (q ▸ H8.out.2)))
        exact kS.own h9 (fun g e q => hT (own_type h9 e (q ▸ rs9)))
      have hrm : Rm (w9.setCell ⟨B + 1, 0, none⟩ (.slice (some ⟨b2, 0, none⟩) k cap2)) l (some ⟨b2, 0, none⟩) cap2 tv := by
        have hq : k = l.length := HC.out.2.1
        refine ⟨?_, fun i f t hf ht => hty _ _ _ _ _ (by decide) (HQ.out.2.2.2.2.2.1 i f t hf ht), by rw [HQ.out.2.2.2.2.2.2.1]; exact hq⟩
        rw [← hq]
        exact hty _ _ _ _ _ (by decide) HQ.out.2.2.2.2.1
      have HB0 := HQ.out.2.2.2.1
      have hsz : w7.heap.size ≤ (w9.setCell ⟨B + 1, 0, none⟩ (.slice (some ⟨b2, 0, none⟩) k cap2)).heap.size := Nat.le_trans (Nat.le_trans H8.out.1.size H9.out.1.size) kS.size
      have hmp : Mp w.heap.size (w9.setCell ⟨B + 1, 0, none⟩ (.slice (some ⟨b2, 0, none⟩) k cap2)).heap.size (w9.setCell ⟨B + 1, 0, none⟩ (.slice (some ⟨b2, 0, none⟩) k cap2)) l (some ⟨b2, 0, none⟩) cap2 tv :=
        ⟨hrm, fun g e => by
          injection e with e
          injection e with e
          subst e
          exact ⟨HCL.out.2.2.1, own_lt hrm.row rfl⟩, fun i t g ht hg => ⟨(HCL.out.1 i t g ht hg).1, by have := (HCL.out.1 i t g ht hg).2; have := HCL.out.2.2.2; omega⟩, HCL.out.2.1⟩
      have HR : Hid (_ ∧ _ ∧ _) := And.intro rsS (And.intro hmp (((HQ.out.2.2.1.trans H8.out.1 (fun i e hi => by omega)).trans H9.out.1 (fun i e hi => by omega)).trans kS (fun i e hi => by omega)))
      clear hrm hmp hsz hty kS rsS rs9 HB0
      go_wp2_with fail
      exact bodyPost_ret (results_one (q := 2) (ty := 24) rfl rfl (load_prog _ _ _ (.slice (some ⟨b2, 0, none⟩) k cap2) HR.out.1)) rfl (HP.out _ _ ⟨_, cap2, tv, rfl, HR.out.2.1, HR.out.2.2⟩)
end Go.Proofs.YtiibflbfnoddmaaDoor
