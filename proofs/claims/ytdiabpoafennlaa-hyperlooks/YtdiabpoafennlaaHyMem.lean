import Derived.Test.YtdiabpoafennlaaRcCheck
/-! Lists of one-cell values in memory; append of a whole list. -/
namespace Go.Proofs.Ytdiabpoafennlaa
set_option linter.unusedVariables false
set_option maxRecDepth 20000
set_option linter.unusedSimpArgs false
open Go.RowKit Go.HeapKit

def iv (l : List Int) : List Value := l.map (Value.int .i64)
theorem iv_len (l : List Int) : (iv l).length = l.length := by simp [iv]
theorem iv_app (a b : List Int) : iv (a ++ b) = iv a ++ iv b := by simp [iv]
def bv' (l : List Bool) : List Value := l.map Value.bool
theorem bv_len (l : List Bool) : (bv' l).length = l.length := by simp [bv']
theorem keeps_drewN (w : World) (m : Nat) : Keeps None w (w.drewN m) := ⟨rfl, rfl, rfl, Nat.le_refl _, fun _ _ _ => rfl⟩
/-- A list of one-cell values that can be read. -/
structure SeenV (w : World) (a : Option Addr) (n : Nat) (vs : List Value) : Prop where
  len : n = vs.length
  ex : 0 < n → ∃ b off, a = some ⟨b, off, none⟩ ∧ b < w.heap.size ∧ ∀ k v, vs[k]? = some v → w.cell? ⟨b, off + k, none⟩ = some v
theorem SeenV.kept {w w' : World} {S : Nat → Prop} {a : Option Addr} {n : Nat} {vs : List Value} (h : SeenV w a n vs) (hk : Keeps S w w') (hS : 0 < n → ∀ b, blockOf a = some b → b < w.heap.size → ¬ S b) : SeenV w' a n vs := by
  refine ⟨h.len, fun h0 => ?_⟩
  obtain ⟨b, off, rfl, hb, hc⟩ := h.ex h0
  exact ⟨b, off, rfl, Nat.lt_of_lt_of_le hb hk.size, fun k v hv => hk.cell (hc k v hv) (hS h0 b rfl hb)⟩
theorem SeenV.more {w w' : World} {a : Option Addr} {n : Nat} {vs : List Value} (h : SeenV w a n vs) (hk : Keeps None w w') : SeenV w' a n vs := h.kept hk (fun _ _ _ _ f => f)
theorem SeenV.at {w : World} {a : Option Addr} {n : Nat} {vs : List Value} (h : SeenV w a n vs) {k : Nat} (hk : k < n) : ∃ b off v, a = some ⟨b, off, none⟩ ∧ b < w.heap.size ∧ vs[k]? = some v ∧ w.cell? ⟨b, off + k, none⟩ = some v := by
  obtain ⟨b, off, rfl, hb, hc⟩ := h.ex (by omega)
  have hl := h.len
  exact ⟨b, off, vs[k]'(by omega), rfl, hb, by simp, hc k _ (by simp)⟩
theorem SeenV.nil (w : World) (a : Option Addr) : SeenV w a 0 [] := ⟨rfl, fun h => absurd h (by omega)⟩
theorem own_cell1 {w : World} {base : Nat} {e : TypeId} {a : Option Addr} {n c : Nat} {vs : List Value} {k : Nat} {x : Value} (h : w.ownsRow base e 1 (.slice a n c) n vs) (hx : vs[k]? = some x) :
    ∃ g, a = some ⟨g, 0, none⟩ ∧ base ≤ g ∧ g < w.heap.size ∧ n ≤ c ∧ w.cell? ⟨g, k, none⟩ = some x ∧ ∀ i, w.frozen? ⟨g, i, none⟩ = false := by
  have hlen : vs.length = n := by have := h.1; omega
  have hk := (List.getElem?_eq_some_iff.1 hx).1
  rcases h.2 with ⟨_, h1⟩ | ⟨g, cap, cur, hv, hbg, hg, hnc, hcm, hcs, htake⟩
  · omega
  · injection hv with e1 e2 e3
    subst e1 e3
    have hcell : ∀ j u, vs[j]? = some u → w.cell? ⟨g, j, none⟩ = some u := by
      intro j u this
      rw [blk_cell hg]
      rw [← htake, List.getElem?_take] at this
      split at this
      · simpa using this
      · cases this
    exact ⟨g, rfl, hbg, (Array.getElem?_eq_some_iff.1 hg).1, hnc, hcell _ _ hx, fun i => blk_free hg i⟩
theorem own_seen1 {w : World} {base : Nat} {e : TypeId} {a : Option Addr} {n c : Nat} {vs : List Value} (h : w.ownsRow base e 1 (.slice a n c) n vs) : SeenV w a n vs := by
  have hlen : n = vs.length := by have := h.1; omega
  refine ⟨hlen, fun h0 => ?_⟩
  obtain ⟨g, rfl, _, hlt, _⟩ := own_cell1 h (k := 0) (x := vs[0]'(by omega)) (by simp)
  refine ⟨g, 0, rfl, hlt, fun k v hv => ?_⟩
  obtain ⟨g', e', _, _, _, hc, _⟩ := own_cell1 h hv
  injection e' with e'
  injection e' with e'
  subst e'
  rw [Nat.zero_add]
  exact hc
theorem own_nilAny {w : World} {base : Nat} (e : TypeId) (size : Nat) (hb : base ≤ w.heap.size) : (w.alloc (.cells #[] e)).ownsRow base e size (.slice (some ⟨w.heap.size, 0, none⟩) 0 0) 0 [] :=
  ⟨by simp, .inr ⟨w.heap.size, 0, #[], rfl, hb, heap_alloc_new w _, by simp, by simp, by simp, by simp⟩⟩
theorem addr_at (b off j : Nat) : (⟨b, off, none⟩ : Addr).add j = ⟨b, off + j, none⟩ := by unfold Addr.add; split <;> simp_all
/-- 'append(s, x...)' of a whole list, which may be nil. -/
theorem run_append_all {P : Program} (w : World) (base : Nat) (t ty e : TypeId) (i : TypeInfo) (z : Value) (size bytes : Nat) (ht : P.underlying t = some (.slice e)) (hi : P.info? e = some i) (hz : i.zero = some z)
    (hsize : i.size = size) (hby : i.bytes = bytes) (hzs : z.cells.size = size) (hsz : 0 < size)
    (v : Value) (n : Nat) (xs : List Value) (hown : w.ownsRow base e size v n xs)
    (a : Option Addr) (m c : Nat) (news : List Value) (hl : news.length = m * size) (hnews : 0 < m → ∃ b off, a = some ⟨b, off, none⟩ ∧ ∀ j u, news[j]? = some u → w.cell? ⟨b, off + j, none⟩ = some u) (h1 : ∀ u ∈ news, u.oneCell' = true)
    (h63 : n + m ≤ maxLen) (hbytes : (n + m) * bytes ≤ 140737488355328) (hbase : base ≤ w.heap.size) :
    ∃ v' w', (Builtin.append_ #[t, t] ty #[v, .slice a m c]).run P w = .ok v' w' ∧ w'.ownsRow base e size v' (n + m) (xs ++ news) ∧ Keeps (fun k => v.ownBlock = some k) w w' ∧ Moved w v v' ∧
      (v' = .slice none 0 0 ↔ v = .slice none 0 0 ∧ m = 0) := by
  cases a with
  | none =>
    have h0 : m = 0 := by
      rcases Nat.eq_zero_or_pos m with h | h
      · exact h
      · obtain ⟨b, off, e, _⟩ := hnews h
        cases e
    subst h0
    have hn0 : news = [] := List.eq_nil_of_length_eq_zero (by omega)
    subst hn0
    obtain ⟨a', cap, rfl⟩ := row_shape hown
    have hnc : n ≤ cap := by
      rcases hown.2 with ⟨e, h⟩ | ⟨_, _, _, e, _, _, hh, _⟩
      · rw [h]; exact Nat.zero_le _
      · injection e with _ e1 e2
        subst e2
        exact hh
    refine ⟨_, w, ?_, by rw [List.append_nil]; exact hown, Keeps.refl _ _, Moved.refl _ _, by simp⟩
    cases a' <;> simp [Builtin.append_, run_underlying ht, sizeOf, typeInfo, zeroValue, hi, hz, Builtin.lenOf, Builtin.firstCells, storeCells, hnc]
  | some x =>
    by_cases hm : 0 < m
    · obtain ⟨b, off, e', hc⟩ := hnews hm
      injection e' with e'
      subst e'
      obtain ⟨v', w', hr, ho, hg, hmv, hn⟩ := run_append_moved (P := P) w base t ty e i z size bytes ht hi hz hsize hby hzs hsz v n xs hown ⟨b, off, none⟩ m c news hl (fun j u hu => by rw [addr_at]; exact hc j u hu) h1 h63 hbytes hbase
      exact ⟨v', w', hr, ho, (Keeps.refl _ w).andGrown hg (fun k e => .inl e), hmv, hn⟩
    · have h0 : m = 0 := by omega
      subst h0
      have hn0 : news = [] := List.eq_nil_of_length_eq_zero (by omega)
      subst hn0
      obtain ⟨v', w', hr, ho, hg, hmv, hn⟩ := run_append_moved (P := P) w base t ty e i z size bytes ht hi hz hsize hby hzs hsz v n xs hown x 0 c [] hl (fun j u hu => by simp at hu) h1 h63 hbytes hbase
      exact ⟨v', w', hr, ho, (Keeps.refl _ w).andGrown hg (fun k e => .inl e), hmv, hn⟩
theorem Try.infoI64 : (Try.prog.info? 2).map (fun i => (i.zero, i.size, i.bytes)) = some (some (.int .i64 0), 1, 8) := by kernel_rfl
theorem Try.infoI : (Try.prog.info? 3).map (fun i => (i.zero, i.size, i.bytes)) = some (some (.int .i64 0), 1, 8) := by kernel_rfl
theorem Try.infoBool : (Try.prog.info? 4).map (fun i => (i.zero, i.size, i.bytes)) = some (some (.bool false), 1, 1) := by kernel_rfl
theorem iv_one {l : List Int} : ∀ u ∈ iv l, u.oneCell' = true := by
  intro u hu
  obtain ⟨z, _, rfl⟩ := List.mem_map.1 hu
  rfl
theorem bv_one {l : List Bool} : ∀ u ∈ bv' l, u.oneCell' = true := by
  intro u hu
  obtain ⟨z, _, rfl⟩ := List.mem_map.1 hu
  rfl
theorem dd_one {l : List Dd} : ∀ u ∈ ddVals l, u.oneCell' = true := by
  intro u hu
  obtain ⟨z, _, h⟩ := List.mem_flatMap.1 hu
  simp [Dd.vals] at h
  rcases h with rfl | rfl <;> rfl
theorem Seen.cells {w : World} {a : Option Addr} {n : Nat} {l : List Dd} (h : Seen w a n l) : 0 < n → ∃ b off, a = some ⟨b, off, none⟩ ∧ ∀ j u, (ddVals l)[j]? = some u → w.cell? ⟨b, off + j, none⟩ = some u := by
  intro h0
  obtain ⟨b, off, rfl, hb, hc⟩ := h.ex h0
  refine ⟨b, off, rfl, fun j u hu => ?_⟩
  have hj := (List.getElem?_eq_some_iff.1 hu).1
  rw [ddVals_length] at hj
  obtain ⟨x, hx⟩ : ∃ x, l[j / 2]? = some x := ⟨l[j / 2]'(by omega), by simp⟩
  have hd := hc _ x hx
  rcases Nat.mod_two_eq_zero_or_one j with h2 | h2
  · have := ddVals_at l (j / 2) x hx 0 (.int .i64 x.k) rfl
    rw [show j / 2 * 2 + 0 = j by omega] at this
    rw [this] at hu
    injection hu with hu
    subst hu
    have := hd.c0
    rwa [show off + j / 2 * 2 = off + j by omega] at this
  · have := ddVals_at l (j / 2) x hx 1 (.int .i64 x.loc) rfl
    rw [show j / 2 * 2 + 1 = j by omega] at this
    rw [this] at hu
    injection hu with hu
    subst hu
    have := hd.c1
    rwa [show off + j / 2 * 2 + 1 = off + j by omega] at this
/-- 'append([]api.Deed{}, l...)'. -/
theorem deeds_copy (w : World) (a : Option Addr) (n c : Nat) (l : List Dd) (ty : TypeId) (h : Seen w a n l) (hn : n * 16 ≤ 140737488355328) : ∃ v w', (Builtin.append_ #[22, 22] ty #[.slice (some ⟨w.heap.size, 0, none⟩) 0 0, .slice a n c]).run Try.prog (w.alloc (.cells #[] 45)) = .ok v w' ∧
    w'.ownsRow w.heap.size 45 2 v n (ddVals l) ∧ Keeps None w w' := by
  obtain ⟨i0, hi, hz0, hz1, hz2⟩ := info_parts Try.infoDeed
  have kA := Keeps.alloc None w (.cells #[] 45)
  obtain ⟨v', w', hr, ho, hk, -, -⟩ := run_append_all (P := Try.prog) (w.alloc (.cells #[] 45)) w.heap.size 22 ty 45 i0 _ 2 16 Try.underlying22 hi hz0 hz1 hz2 rfl (by decide) _ 0 []
    (own_nilAny 45 2 (Nat.le_refl _)) a n c (ddVals l) (by rw [ddVals_length, h.len]) (h.more kA).cells dd_one (by unfold maxLen; omega) (by omega) kA.size
  refine ⟨v', w', hr, by simpa using ho, kA.trans hk (fun i e hi => by simp [Value.ownBlock] at e; omega)⟩
theorem bools_copy (w : World) (a : Option Addr) (n c : Nat) (l : List Bool) (ty : TypeId) (h : SeenV w a n (bv' l)) (hn : n ≤ 140737488355328) : ∃ v w', (Builtin.append_ #[23, 23] ty #[.slice (some ⟨w.heap.size, 0, none⟩) 0 0, .slice a n c]).run Try.prog (w.alloc (.cells #[] 4)) = .ok v w' ∧
    w'.ownsRow w.heap.size 4 1 v n (bv' l) ∧ Keeps None w w' := by
  obtain ⟨i0, hi, hz0, hz1, hz2⟩ := info_parts Try.infoBool
  have kA := Keeps.alloc None w (.cells #[] 4)
  obtain ⟨v', w', hr, ho, hk, -, -⟩ := run_append_all (P := Try.prog) (w.alloc (.cells #[] 4)) w.heap.size 23 ty 4 i0 _ 1 1 Try.underlying23 hi hz0 hz1 hz2 rfl (by decide) _ 0 []
    (own_nilAny 4 1 (Nat.le_refl _)) a n c (bv' l) (by have := h.len; omega) (fun h0 => by obtain ⟨b, off, e, _, hc⟩ := (h.more kA).ex h0; exact ⟨b, off, e, hc⟩) bv_one (by unfold maxLen; omega) (by omega) kA.size
  refine ⟨v', w', hr, by simpa using ho, kA.trans hk (fun i e hi => by simp [Value.ownBlock] at e; omega)⟩
theorem ints_copy (w : World) (a : Option Addr) (n c : Nat) (l : List Int) (ty : TypeId) (h : SeenV w a n (iv l)) (hn : n * 8 ≤ 140737488355328) : ∃ v w', (Builtin.append_ #[24, 24] ty #[.slice (some ⟨w.heap.size, 0, none⟩) 0 0, .slice a n c]).run Try.prog (w.alloc (.cells #[] 3)) = .ok v w' ∧
    w'.ownsRow w.heap.size 3 1 v n (iv l) ∧ Keeps None w w' := by
  obtain ⟨i0, hi, hz0, hz1, hz2⟩ := info_parts Try.infoI
  have kA := Keeps.alloc None w (.cells #[] 3)
  obtain ⟨v', w', hr, ho, hk, -, -⟩ := run_append_all (P := Try.prog) (w.alloc (.cells #[] 3)) w.heap.size 24 ty 3 i0 _ 1 8 Try.underlying24 hi hz0 hz1 hz2 rfl (by decide) _ 0 []
    (own_nilAny 3 1 (Nat.le_refl _)) a n c (iv l) (by have := h.len; omega) (fun h0 => by obtain ⟨b, off, e, _, hc⟩ := (h.more kA).ex h0; exact ⟨b, off, e, hc⟩) iv_one (by unfold maxLen; omega) (by omega) kA.size
  refine ⟨v', w', hr, by simpa using ho, kA.trans hk (fun i e hi => by simp [Value.ownBlock] at e; omega)⟩
/-- 'append(s, x)' of a number. -/
theorem i64_more (base : Nat) (s : Value) (l : List Int) (x : Int) (ty g0 : Nat) (w : World) (h : w.ownsRow base 2 1 s l.length (iv l)) (hb : base ≤ w.heap.size) (hlen : (l.length + 1) * 8 ≤ 140737488355328)
    (hg0 : w.heap[g0]? = some (.cells #[.int .i64 x] 2 (0, 0))) :
    ∃ g cap w', (Builtin.append_ #[28, 28] ty #[s, .slice (some ⟨g0, 0, none⟩) 1 1]).run Try.prog w = .ok (.slice (some ⟨g, 0, none⟩) (l.length + 1) cap) w' ∧
      w'.ownsRow base 2 1 (.slice (some ⟨g, 0, none⟩) (l.length + 1) cap) (l.length + 1) (iv (l ++ [x])) ∧ Keeps (fun k => s.ownBlock = some k) w w' ∧ (s.ownBlock = some g ∨ w.heap.size ≤ g) := by
  obtain ⟨i0, hi, hz0, hz1, hz2⟩ := info_parts Try.infoI64
  obtain ⟨v', w1, hr, ho, hgr, hm, -⟩ := run_append_moved (P := Try.prog) w base 28 ty 2 i0 _ 1 8 Try.underlying28 hi hz0 hz1 hz2 rfl (by decide) s l.length _ h
    ⟨g0, 0, none⟩ 1 1 [.int .i64 x] rfl (by
      intro j u hu
      rw [addr_at, blk_cell hg0]
      simpa using hu) (by
      intro u hu
      simp at hu
      subst hu; rfl) (by unfold maxLen; omega) hlen hb
  obtain ⟨g, cap, rfl⟩ : ∃ g cap, v' = .slice (some ⟨g, 0, none⟩) (l.length + 1) cap := by
    rcases ho.2 with ⟨_, h0⟩ | ⟨b, cap, cur, rfl, _⟩
    · omega
    · exact ⟨b, cap, rfl⟩
  refine ⟨g, cap, w1, hr, by simpa [iv] using ho, (Keeps.refl _ w).andGrown hgr (fun k e => .inl e), ?_⟩
  rcases hm with hm | ⟨g', e, hg⟩
  · exact .inl (hm.symm.trans rfl)
  · simp [Value.ownBlock] at e; exact .inr (by omega)
end Go.Proofs.Ytdiabpoafennlaa
