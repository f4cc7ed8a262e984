import Derived.Test.YtaipeclmfgdegaaRfNew
/-! The document's ops: ended, want, behind, Step. -/
namespace Go.Proofs.Ytaipeclmfgdegaa
open Go.RowKit Go.HeapKit Go.IntWalk

structure ROp where
  kind : Int
  join : Int
  cell : Int
  v : Int
  next : Int
  frames : Int
  made : Int
  code : Int
  came : Int
def ROp.vals (r : ROp) : Array Value := #[.int .i64 r.kind, .int .i64 r.join, .int .i64 r.cell, .int .i64 r.v, .int .i64 r.next, .int .i64 r.frames, .int .i64 r.made, .int .i64 r.code, .int .i64 r.came]
def ROp.value (r : ROp) : Value := .agg r.vals
def ROp.fin (r : ROp) (code v : Int) : ROp := { r with code := code, came := v }
/-- The next access: kind, address, number. -/
def ROp.want (r : ROp) : Int × Int × Int :=
  if r.kind = 0 then (3, r.next, 1) else if r.kind = 1 then (3, r.join, 1)
  else if r.kind = 2 then if r.made = 0 then (1, r.cell, r.v) else if r.made = 2 then (1, r.join, 1) else (3, r.join, -1)
  else if r.kind = 3 then if r.made = 1 then (1, r.join, 1) else (3, r.join, -1)
  else if r.kind = 4 then (3, wrap64 (r.join + 1), 1) else (0, r.cell, 0)
def ROp.behind (r : ROp) (n : Int) : ROp :=
  let s : ROp := { r with made := r.made + 1 }
  if r.kind = 0 then if 1 ≤ n ∧ n ≤ r.frames then s.fin 4 (wrap64 (n - 1)) else s.fin 3 0
  else if r.kind = 1 then s.fin 9 n
  else if r.kind = 2 then if r.made + 1 = 2 ∧ n ≠ 0 then s.fin 10 n else if r.made + 1 = 3 then s.fin 11 0 else s
  else if r.kind = 3 then if r.made + 1 = 1 ∧ n ≠ 0 then s.fin 12 n else if r.made + 1 = 2 then s.fin 13 0 else s
  else if r.kind = 4 then s.fin 14 n else s.fin 15 n
def ROp.step (r : ROp) (A : Ar) : ROp × Ar :=
  if r.code ≠ 0 then (r, A)
  else if (A.did r.want.1 r.want.2.1 r.want.2.2 0).1.err = 0 then (r.behind (A.did r.want.1 r.want.2.1 r.want.2.2 0).1.v, (A.did r.want.1 r.want.2.1 r.want.2.2 0).2)
  else (r.fin 1 0, (A.did r.want.1 r.want.2.1 r.want.2.2 0).2)
theorem act_ret {Q : Ending → World → Prop} {a : Act} {w1 : World} {g : Nat} {t : TypeId} {fn : Func} {v0 v1 v2 v3 v4 : Value} (q : Tmp) (hfn : fn.results = #[.cell q 54]) (hb : w1.heap[g]? = some (.cells #[v0, v1, v2, v3, v4] t (0, 0)))
    (ha : a.tmps.getD q undef = .pointer (some ⟨g, 0, none⟩)) (hd : a.defers = []) (hQ : Q (.returned (.agg #[v0, v1, v2, v3, v4])) w1) : bodyPost Try.prog fn Q .ret a w1 := by
  have hl := run_loadVar_row (P := Try.prog) _ g t 54 _ _ _ hb Try.underlying54 rfl (by kernel_rfl)
  have ha' : a.tmps[q]?.getD undef = .pointer (some ⟨g, 0, none⟩) := by simpa using ha
  refine bodyPost_ret (v := .agg #[v0, v1, v2, v3, v4]) ?_ hd hQ
  simp [results, hfn, ha', asAddr, hl]
theorem act_end {Q : Ending → World → Prop} {a : Act} {w1 : World} {g : Nat} {c : Array Value} {t : TypeId} {fn : Func} (q : Tmp) (hfn : fn.results = #[.cell q 54]) (hc : c.size = 5) (hb : w1.heap[g]? = some (.cells c t (0, 0)))
    (ha : a.tmps.getD q undef = .pointer (some ⟨g, 0, none⟩)) (hd : a.defers = []) (v0 v1 v2 v3 v4 : Value) (hQ : ∀ w', Keeps (· = g) w1 w' → Q (.returned (.agg #[v0, v1, v2, v3, v4])) w') : bodyPost Try.prog fn Q .ret a (((((w1.setCell ⟨g, 0, none⟩ v0).setCell ⟨g, 1, none⟩ v1).setCell ⟨g, 2, none⟩ v2).setCell ⟨g, 3, none⟩ v3).setCell ⟨g, 4, none⟩ v4) := by
  obtain ⟨c', h1, h2⟩ := setsFrom_block g t [v0, v1, v2, v3, v4] 0 w1 c hb (by simp [hc])
  have h3 : c' = #[v0, v1, v2, v3, v4] := by
    apply Array.toList_inj.1
    rw [h2, List.drop_of_length_le (by simp [hc])]
    rfl
  rw [h3] at h1
  exact act_ret q hfn h1 ha hd (hQ _ (setsFrom_keeps g [v0, v1, v2, v3, v4] 0 w1))
theorem rop_ret {Q : Ending → World → Prop} {a : Act} {w1 : World} {g : Nat} {t : TypeId} {fn : Func} {v0 v1 v2 v3 v4 v5 v6 v7 v8 : Value} (q : Tmp) (hfn : fn.results = #[.cell q 68]) (hb : w1.heap[g]? = some (.cells #[v0, v1, v2, v3, v4, v5, v6, v7, v8] t (0, 0)))
    (ha : a.tmps.getD q undef = .pointer (some ⟨g, 0, none⟩)) (hd : a.defers = []) (hQ : Q (.returned (.agg #[v0, v1, v2, v3, v4, v5, v6, v7, v8])) w1) : bodyPost Try.prog fn Q .ret a w1 := by
  have hl := run_loadVar_row (P := Try.prog) _ g t 68 _ _ _ hb Try.underlying68 rfl (by kernel_rfl)
  have ha' : a.tmps[q]?.getD undef = .pointer (some ⟨g, 0, none⟩) := by simpa using ha
  refine bodyPost_ret (v := .agg #[v0, v1, v2, v3, v4, v5, v6, v7, v8]) ?_ hd hQ
  simp [results, hfn, ha', asAddr, hl]
theorem rop_end {Q : Ending → World → Prop} {a : Act} {w1 : World} {g : Nat} {c : Array Value} {t : TypeId} {fn : Func} (q : Tmp) (hfn : fn.results = #[.cell q 68]) (hc : c.size = 9) (hb : w1.heap[g]? = some (.cells c t (0, 0)))
    (ha : a.tmps.getD q undef = .pointer (some ⟨g, 0, none⟩)) (hd : a.defers = []) (v0 v1 v2 v3 v4 v5 v6 v7 v8 : Value) (hQ : ∀ w', Keeps (· = g) w1 w' → Q (.returned (.agg #[v0, v1, v2, v3, v4, v5, v6, v7, v8])) w') : bodyPost Try.prog fn Q .ret a (((((((((w1.setCell ⟨g, 0, none⟩ v0).setCell ⟨g, 1, none⟩ v1).setCell ⟨g, 2, none⟩ v2).setCell ⟨g, 3, none⟩ v3).setCell ⟨g, 4, none⟩ v4).setCell ⟨g, 5, none⟩ v5).setCell ⟨g, 6, none⟩ v6).setCell ⟨g, 7, none⟩ v7).setCell ⟨g, 8, none⟩ v8) := by
  obtain ⟨c', h1, h2⟩ := setsFrom_block g t [v0, v1, v2, v3, v4, v5, v6, v7, v8] 0 w1 c hb (by simp [hc])
  have h3 : c' = #[v0, v1, v2, v3, v4, v5, v6, v7, v8] := by
    apply Array.toList_inj.1
    rw [h2, List.drop_of_length_le (by simp [hc])]
    rfl
  rw [h3] at h1
  exact rop_ret q hfn h1 ha hd (hQ _ (setsFrom_keeps g [v0, v1, v2, v3, v4, v5, v6, v7, v8] 0 w1))
theorem two_at (w : World) (o1 o2 : Obj) : ((w.alloc o1).alloc o2).heap[w.heap.size]? = some o1 ∧ ((w.alloc o1).alloc o2).heap[w.heap.size + 1]? = some o2 :=
  ⟨(Below.heap_alloc _ _ _ (by simp)).trans (new_at w _ _ rfl), new_at _ _ _ (by simp)⟩
set_option maxHeartbeats 4000000 in
set_option maxRecDepth 100000 in
theorem fin_any (k j c v nx fr m cd cm x y : Int) (w : World) : Calls Try.prog 51 #[.agg #[.int .i64 k, .int .i64 j, .int .i64 c, .int .i64 v, .int .i64 nx, .int .i64 fr, .int .i64 m, .int .i64 cd, .int .i64 cm], .int .i64 x, .int .i64 y] w fun e w' => e = .returned (.agg #[.int .i64 k, .int .i64 j, .int .i64 c, .int .i64 v, .int .i64 nx, .int .i64 fr, .int .i64 m, .int .i64 x, .int .i64 y]) ∧ Keeps None w w' := by
  go_enter Try.func51, Try.ntmps51
  go_wp2
  exact rop_ret 6 rfl (two_at w _ _).2 rfl rfl ⟨rfl, ((Keeps.refl None w).andAlloc _).andAlloc _⟩
set_option maxHeartbeats 4000000 in
set_option maxRecDepth 100000 in
theorem want_any (k j c v nx fr m cd cm : Int) (w : World) : Calls Try.prog 50 #[.agg #[.int .i64 k, .int .i64 j, .int .i64 c, .int .i64 v, .int .i64 nx, .int .i64 fr, .int .i64 m, .int .i64 cd, .int .i64 cm]] w fun e w' => e = .returned (.agg #[.int .i64 0, .int .i64 (ROp.mk k j c v nx fr m cd cm).want.1, .int .i64 (ROp.mk k j c v nx fr m cd cm).want.2.1, .int .i64 (ROp.mk k j c v nx fr m cd cm).want.2.2, .int .i64 0]) ∧ Keeps None w w' := by
  unfold ROp.want
  simp only
  by_cases h0 : k = 0
  · subst h0
    rw [if_pos rfl]
    go_enter Try.func50, Try.ntmps50
    go_wp2
    exact act_ret 2 rfl (four_at w _ _ _ _).1 rfl rfl ⟨rfl, ((((Keeps.refl None w).andAlloc _).andAlloc _).andAlloc _).andAlloc _⟩
  rw [if_neg h0]
  by_cases h1 : k = 1
  · subst h1
    clear h0
    rw [if_pos rfl]
    go_enter Try.func50, Try.ntmps50
    go_wp2
    exact act_ret 2 rfl (four_at w _ _ _ _).1 rfl rfl ⟨rfl, ((((Keeps.refl None w).andAlloc _).andAlloc _).andAlloc _).andAlloc _⟩
  rw [if_neg h1]
  by_cases h2 : k = 2
  · subst h2
    clear h0 h1
    rw [if_pos rfl]
    by_cases m0 : m = 0
    · subst m0
      rw [if_pos rfl]
      go_enter Try.func50, Try.ntmps50
      go_wp2
      exact act_ret 2 rfl (four_at w _ _ _ _).1 rfl rfl ⟨rfl, ((((Keeps.refl None w).andAlloc _).andAlloc _).andAlloc _).andAlloc _⟩
    rw [if_neg m0]
    have b0 : (m == 0) = false := by simpa using m0
    by_cases m2 : m = 2
    · subst m2
      clear m0 b0
      rw [if_pos rfl]
      go_enter Try.func50, Try.ntmps50
      go_wp2
      exact act_ret 2 rfl (four_at w _ _ _ _).1 rfl rfl ⟨rfl, ((((Keeps.refl None w).andAlloc _).andAlloc _).andAlloc _).andAlloc _⟩
    · have b2 : (m == 2) = false := by simpa using m2
      rw [if_neg m2]
      clear m0 m2
      go_enter Try.func50, Try.ntmps50
      go_wp2
      exact act_ret 2 rfl (four_at w _ _ _ _).1 rfl rfl ⟨rfl, ((((Keeps.refl None w).andAlloc _).andAlloc _).andAlloc _).andAlloc _⟩
  rw [if_neg h2]
  by_cases h3 : k = 3
  · subst h3
    clear h0 h1 h2
    rw [if_pos rfl]
    by_cases m1 : m = 1
    · subst m1
      rw [if_pos rfl]
      go_enter Try.func50, Try.ntmps50
      go_wp2
      exact act_ret 2 rfl (four_at w _ _ _ _).1 rfl rfl ⟨rfl, ((((Keeps.refl None w).andAlloc _).andAlloc _).andAlloc _).andAlloc _⟩
    · have b1 : (m == 1) = false := by simpa using m1
      rw [if_neg m1]
      clear m1
      go_enter Try.func50, Try.ntmps50
      go_wp2
      exact act_ret 2 rfl (four_at w _ _ _ _).1 rfl rfl ⟨rfl, ((((Keeps.refl None w).andAlloc _).andAlloc _).andAlloc _).andAlloc _⟩
  rw [if_neg h3]
  by_cases h4 : k = 4
  · subst h4
    clear h0 h1 h2 h3
    rw [if_pos rfl]
    go_enter Try.func50, Try.ntmps50
    go_wp2
    exact act_ret 2 rfl (four_at w _ _ _ _).1 rfl rfl ⟨rfl, ((((Keeps.refl None w).andAlloc _).andAlloc _).andAlloc _).andAlloc _⟩
  rw [if_neg h4]
  have a0 : (k == 0) = false := by simpa using h0
  have a1 : (k == 1) = false := by simpa using h1
  have a2 : (k == 2) = false := by simpa using h2
  have a3 : (k == 3) = false := by simpa using h3
  have a4 : (k == 4) = false := by simpa using h4
  clear h0 h1 h2 h3 h4
  go_enter Try.func50, Try.ntmps50
  go_wp2
  exact act_ret 2 rfl (four_at w _ _ _ _).1 rfl rfl ⟨rfl, ((((Keeps.refl None w).andAlloc _).andAlloc _).andAlloc _).andAlloc _⟩
end Go.Proofs.Ytaipeclmfgdegaa
