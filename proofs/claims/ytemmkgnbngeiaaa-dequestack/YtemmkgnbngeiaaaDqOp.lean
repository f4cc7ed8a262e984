import Derived.Test.YtemmkgnbngeiaaaDqNew
import Derived.Test.YtemmkgnbngeiaaaDoneWalks
import Derived.Test.YtemmkgnbngeiaaaModWalks
/-! A machine, plainly; the small functions on it. -/
namespace Go.Proofs.Ytemmkgnbngeiaaa
open Go.RowKit Go.HeapKit Go.IntWalk Go.PlainOps

@[ext] structure OpS where
  base : Int
  most : Int
  at_ : Int
  code : Int
  v : Int
  t : Int
  b : Int
  a : Int
  c : Int
  na : Int
  nc : Int
  ix : Int
  mv : Int
def OpS.vals (o : OpS) : Array Value := #[.int .i64 o.base, .int .i64 o.most, .int .i64 o.at_, .int .i64 o.code, .int .i64 o.v, .int .i64 o.t, .int .i64 o.b, .int .i64 o.a, .int .i64 o.c, .int .i64 o.na, .int .i64 o.nc, .int .i64 o.ix, .int .i64 o.mv]
def OpS.value (o : OpS) : Value := .agg o.vals
def OpS.zero : OpS := ⟨0, 0, 0, 0, 0, 0, 0, 0, 0, 0, 0, 0, 0⟩
def OpS.ended (code v : Int) : OpS := ⟨0, 0, 1, code, v, 0, 0, 0, 0, 0, 0, 0, 0⟩

theorem op_ret1 {Q : Ending → World → Prop} {a : Act} {w1 : World} {g : Nat} {t : TypeId} {fn : Func} {v0 v1 v2 v3 v4 v5 v6 v7 v8 v9 v10 v11 v12 : Value} (q : Tmp) (hfn : fn.results = #[.cell q 53]) (hb : w1.heap[g]? = some (.cells #[v0, v1, v2, v3, v4, v5, v6, v7, v8, v9, v10, v11, v12] t (0, 0)))
    (ha : a.tmps.getD q undef = .pointer (some ⟨g, 0, none⟩)) (hd : a.defers = []) (hQ : Q (.returned (.agg #[v0, v1, v2, v3, v4, v5, v6, v7, v8, v9, v10, v11, v12])) w1) : bodyPost Try.prog fn Q .ret a w1 := by
  have hl := run_loadVar_row (P := Try.prog) _ g t 53 _ _ _ hb Try.underlying53 rfl (by kernel_rfl)
  have ha' : a.tmps[q]?.getD undef = .pointer (some ⟨g, 0, none⟩) := by simpa using ha
  refine bodyPost_ret (v := .agg #[v0, v1, v2, v3, v4, v5, v6, v7, v8, v9, v10, v11, v12]) ?_ hd hQ
  simp [results, hfn, ha', asAddr, hl]
theorem op_ret2 {Q : Ending → World → Prop} {a : Act} {w1 : World} {g : Nat} {t : TypeId} {fn : Func} {v0 v1 v2 v3 v4 v5 v6 v7 v8 v9 v10 v11 v12 : Value} (hfn : fn.results = #[.cell 4 53, .tmp 5]) (hb : w1.heap[g]? = some (.cells #[v0, v1, v2, v3, v4, v5, v6, v7, v8, v9, v10, v11, v12] t (0, 0)))
    (ha : a.tmps.getD 4 undef = .pointer (some ⟨g, 0, none⟩)) (hd : a.defers = []) (hQ : Q (.returned (.tuple #[.agg #[v0, v1, v2, v3, v4, v5, v6, v7, v8, v9, v10, v11, v12], a.tmps.getD 5 undef])) w1) : bodyPost Try.prog fn Q .ret a w1 := by
  have hl := run_loadVar_row (P := Try.prog) _ g t 53 _ _ _ hb Try.underlying53 rfl (by kernel_rfl)
  have ha' : a.tmps[4]?.getD undef = .pointer (some ⟨g, 0, none⟩) := by simpa using ha
  refine bodyPost_ret (v := .tuple #[.agg #[v0, v1, v2, v3, v4, v5, v6, v7, v8, v9, v10, v11, v12], a.tmps.getD 5 undef]) ?_ hd hQ
  rw [results_cell_tmp hfn]
  simp [asAddr, ha', hl, Result.andThen]
def setsFrom (w : World) (g : Nat) : Nat → List Value → World
  | _, [] => w
  | i, v :: vs => setsFrom (w.setCell ⟨g, i, none⟩ v) g (i + 1) vs
theorem setsFrom_keeps (g : Nat) : ∀ (vs : List Value) (i : Nat) (w : World), Keeps (· = g) w (setsFrom w g i vs)
  | [], _, _ => Keeps.refl _ _
  | v :: vs, i, w => (Keeps.setCell (S := (· = g)) w (a := ⟨g, i, none⟩) rfl v).trans (setsFrom_keeps g vs (i + 1) _) (fun _ f _ => f)
theorem setsFrom_block (g : Nat) (t : TypeId) : ∀ (vs : List Value) (i : Nat) (w : World) (c : Array Value), w.heap[g]? = some (.cells c t (0, 0)) → i + vs.length ≤ c.size →
    ∃ c', (setsFrom w g i vs).heap[g]? = some (.cells c' t (0, 0)) ∧ c'.toList = c.toList.take i ++ vs ++ c.toList.drop (i + vs.length)
  | [], i, w, c, hb, _ => ⟨c, hb, by simp⟩
  | v :: vs, i, w, c, hb, hl => by
    simp only [List.length_cons] at hl
    obtain ⟨c', h1, h2⟩ := setsFrom_block g t vs (i + 1) (w.setCell ⟨g, i, none⟩ v) (c.setIfInBounds i v) (setCell_block hb v) (by simp; omega)
    refine ⟨c', h1, h2.trans ?_⟩
    rw [Array.toList_setIfInBounds]
    have hi : i < c.toList.length := by simp; omega
    have e1 : (c.toList.set i v).take (i + 1) = c.toList.take i ++ [v] := by
      rw [List.set_eq_take_append_cons_drop, if_pos hi, List.take_append]
      have : (c.toList.take i).length = i := by simp; omega
      rw [List.take_of_length_le (by omega), this]
      simp
    have e2 : (c.toList.set i v).drop (i + 1 + vs.length) = c.toList.drop (i + (v :: vs).length) := by
      rw [List.drop_set_of_lt (by omega)]
      simp only [List.length_cons]
      congr 1
      omega
    rw [e1, e2]
    simp
theorem op_set {w1 : World} {g : Nat} {c : Array Value} {t : TypeId} (hc : c.size = 13) (hb : w1.heap[g]? = some (.cells c t (0, 0))) (v0 v1 v2 v3 v4 v5 v6 v7 v8 v9 v10 v11 v12 : Value) :
    (((((((((((((w1.setCell ⟨g, 0, none⟩ v0).setCell ⟨g, 1, none⟩ v1).setCell ⟨g, 2, none⟩ v2).setCell ⟨g, 3, none⟩ v3).setCell ⟨g, 4, none⟩ v4).setCell ⟨g, 5, none⟩ v5).setCell ⟨g, 6, none⟩ v6).setCell ⟨g, 7, none⟩ v7).setCell ⟨g, 8, none⟩ v8).setCell ⟨g, 9, none⟩ v9).setCell ⟨g, 10, none⟩ v10).setCell ⟨g, 11, none⟩ v11).setCell ⟨g, 12, none⟩ v12).heap[g]? = some (.cells #[v0, v1, v2, v3, v4, v5, v6, v7, v8, v9, v10, v11, v12] t (0, 0)) ∧ Keeps (· = g) w1 (((((((((((((w1.setCell ⟨g, 0, none⟩ v0).setCell ⟨g, 1, none⟩ v1).setCell ⟨g, 2, none⟩ v2).setCell ⟨g, 3, none⟩ v3).setCell ⟨g, 4, none⟩ v4).setCell ⟨g, 5, none⟩ v5).setCell ⟨g, 6, none⟩ v6).setCell ⟨g, 7, none⟩ v7).setCell ⟨g, 8, none⟩ v8).setCell ⟨g, 9, none⟩ v9).setCell ⟨g, 10, none⟩ v10).setCell ⟨g, 11, none⟩ v11).setCell ⟨g, 12, none⟩ v12) := by
  obtain ⟨c', h1, h2⟩ := setsFrom_block g t [v0, v1, v2, v3, v4, v5, v6, v7, v8, v9, v10, v11, v12] 0 w1 c hb (by simp [hc])
  have h3 : c' = #[v0, v1, v2, v3, v4, v5, v6, v7, v8, v9, v10, v11, v12] := by
    apply Array.toList_inj.1
    rw [h2, List.drop_of_length_le (by simp [hc])]
    rfl
  rw [h3] at h1
  exact ⟨h1, setsFrom_keeps g [v0, v1, v2, v3, v4, v5, v6, v7, v8, v9, v10, v11, v12] 0 w1⟩
theorem op_end1 {Q : Ending → World → Prop} {a : Act} {w1 : World} {g : Nat} {c : Array Value} {t : TypeId} {fn : Func} (q : Tmp) (hfn : fn.results = #[.cell q 53]) (hc : c.size = 13) (hb : w1.heap[g]? = some (.cells c t (0, 0)))
    (ha : a.tmps.getD q undef = .pointer (some ⟨g, 0, none⟩)) (hd : a.defers = []) (v0 v1 v2 v3 v4 v5 v6 v7 v8 v9 v10 v11 v12 : Value) (hQ : ∀ w', Keeps (· = g) w1 w' → Q (.returned (.agg #[v0, v1, v2, v3, v4, v5, v6, v7, v8, v9, v10, v11, v12])) w') : bodyPost Try.prog fn Q .ret a (((((((((((((w1.setCell ⟨g, 0, none⟩ v0).setCell ⟨g, 1, none⟩ v1).setCell ⟨g, 2, none⟩ v2).setCell ⟨g, 3, none⟩ v3).setCell ⟨g, 4, none⟩ v4).setCell ⟨g, 5, none⟩ v5).setCell ⟨g, 6, none⟩ v6).setCell ⟨g, 7, none⟩ v7).setCell ⟨g, 8, none⟩ v8).setCell ⟨g, 9, none⟩ v9).setCell ⟨g, 10, none⟩ v10).setCell ⟨g, 11, none⟩ v11).setCell ⟨g, 12, none⟩ v12) := by
  obtain ⟨h1, h2⟩ := op_set hc hb v0 v1 v2 v3 v4 v5 v6 v7 v8 v9 v10 v11 v12
  exact op_ret1 q hfn h1 ha hd (hQ _ h2)
theorem op_end2 {Q : Ending → World → Prop} {a : Act} {w1 : World} {g : Nat} {c : Array Value} {t : TypeId} {fn : Func} (hfn : fn.results = #[.cell 4 53, .tmp 5]) (hc : c.size = 13) (hb : w1.heap[g]? = some (.cells c t (0, 0)))
    (ha : a.tmps.getD 4 undef = .pointer (some ⟨g, 0, none⟩)) (hd : a.defers = []) (v0 v1 v2 v3 v4 v5 v6 v7 v8 v9 v10 v11 v12 : Value) (hQ : ∀ w', Keeps (· = g) w1 w' → Q (.returned (.tuple #[.agg #[v0, v1, v2, v3, v4, v5, v6, v7, v8, v9, v10, v11, v12], a.tmps.getD 5 undef])) w') : bodyPost Try.prog fn Q .ret a (((((((((((((w1.setCell ⟨g, 0, none⟩ v0).setCell ⟨g, 1, none⟩ v1).setCell ⟨g, 2, none⟩ v2).setCell ⟨g, 3, none⟩ v3).setCell ⟨g, 4, none⟩ v4).setCell ⟨g, 5, none⟩ v5).setCell ⟨g, 6, none⟩ v6).setCell ⟨g, 7, none⟩ v7).setCell ⟨g, 8, none⟩ v8).setCell ⟨g, 9, none⟩ v9).setCell ⟨g, 10, none⟩ v10).setCell ⟨g, 11, none⟩ v11).setCell ⟨g, 12, none⟩ v12) := by
  obtain ⟨h1, h2⟩ := op_set hc hb v0 v1 v2 v3 v4 v5 v6 v7 v8 v9 v10 v11 v12
  exact op_ret2 hfn h1 ha hd (hQ _ h2)

theorem opend_any (code v : Int) (w : World) : Calls Try.prog 69 #[.int .i64 code, .int .i64 v] w fun e w' => e = .returned (OpS.ended code v).value ∧ Keeps None w w' := by
  go_enter Try.func69, Try.ntmps69
  go_wp2
  exact op_ret1 4 rfl (new_at w _ _ rfl) rfl rfl ⟨rfl, Keeps.alloc None w _⟩
theorem top_any (n m : Int) (w : World) : Calls Try.prog 63 #[.agg #[.int .i64 n, .int .i64 m]] w fun e w' => e = .returned (.int .i64 (wrap64 n)) ∧ Keeps None w w' := by
  go_enter Try.func63, Try.ntmps63
  go_wp2
  go_ret
  exact ⟨by simp, Keeps.alloc None w _⟩
theorem bottom_any (n m : Int) (w : World) : Calls Try.prog 64 #[.agg #[.int .i64 n, .int .i64 m]] w fun e w' => e = .returned (.int .i64 (wrap64 (n + 1))) ∧ Keeps None w w' := by
  go_enter Try.func64, Try.ntmps64
  go_wp2
  go_ret
  exact ⟨by simp, Keeps.alloc None w _⟩
theorem bufw_any (n m : Int) (w : World) : Calls Try.prog 39 #[.agg #[.int .i64 n, .int .i64 m]] w fun e w' => e = .returned (.int .i64 (wrap64 (n + 2))) ∧ Keeps None w w' := by
  go_enter Try.func39, Try.ntmps39
  go_wp2
  go_ret
  exact ⟨by simp, Keeps.alloc None w _⟩
/-- Where a buffer has an element. -/
def placeV (a c i : Int) : Int := wrap64 (wrap64 (a + 1) + modV i c)
theorem place_any (a c i : Int) (hc : c ≤ 9223372036854775807) (w : World) : Calls Try.prog 65 #[.int .i64 a, .int .i64 c, .int .i64 i] w fun e w' => e = .returned (.int .i64 (placeV a c i)) ∧ w' = w := by
  have hm := mod_any i c
  have E : Hid (∀ a : Int, wrap64 (wrap64 (a + 1) + modV i c) = placeV a c i) := fun a => rfl
  generalize modV i c = r at hm E
  go_enter Try.func65, Try.ntmps65
  go_wp2_with fail
  refine (hm _ hc).mono ?_
  rintro e w' ⟨rfl, hw⟩
  have hw2 := hw.symm
  subst hw2
  clear hw
  go_wp2_with fail
  go_ret
  exact ⟨by rw [← E.out]; rfl, rfl⟩
end Go.Proofs.Ytemmkgnbngeiaaa
