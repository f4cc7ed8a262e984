import Derived.Test.YtaipeclmfgdegaaFrAcc
import Derived.Deep.RegionHeld3
import Derived.Deep.DeepCutAuto
import Derived.Deep.QuietTactic
import Derived.BigQuiet
/-! Within a step: the machine's box, the block for the result, the arena. -/
namespace Go.Proofs.Ytaipeclmfgdegaa
open Go.RowKit Go.HeapKit Go.IntWalk

theorem opf_ret1 {Q : Ending → World → Prop} {a : Act} {w1 : World} {g : Nat} {t : TypeId} {fn : Func} {v0 v1 v2 v3 v4 v5 v6 v7 : Value} (q : Tmp) (hfn : fn.results = #[.cell q 63]) (hb : w1.heap[g]? = some (.cells #[v0, v1, v2, v3, v4, v5, v6, v7] t (0, 0)))
    (ha : a.tmps.getD q undef = .pointer (some ⟨g, 0, none⟩)) (hd : a.defers = []) (hQ : Q (.returned (.agg #[v0, v1, v2, v3, v4, v5, v6, v7])) w1) : bodyPost Try.prog fn Q .ret a w1 := by
  have hl := run_loadVar_row (P := Try.prog) _ g t 63 _ _ _ hb Try.underlying63 rfl (by kernel_rfl)
  have ha' : a.tmps[q]?.getD undef = .pointer (some ⟨g, 0, none⟩) := by simpa using ha
  refine bodyPost_ret (v := .agg #[v0, v1, v2, v3, v4, v5, v6, v7]) ?_ hd hQ
  simp [results, hfn, ha', asAddr, hl]
theorem results_cell_tmp8 {P : Program} {fn : Func} {q r : Tmp} {ty : TypeId} (h : fn.results = #[.cell q ty, .tmp r]) (tmps : Array Value) (w : World) :
    (results fn tmps).run P w = ((do let a ← asAddr (tmps.getD q undef); let x ← loadVar ty a; pure (Value.tuple #[x, tmps.getD r undef]) : Sem Value).run P w) := by
  simp only [results, h]
  simp
theorem opf_ret2 {Q : Ending → World → Prop} {a : Act} {w1 : World} {g : Nat} {t : TypeId} {fn : Func} {v0 v1 v2 v3 v4 v5 v6 v7 : Value} (q r : Tmp) (hfn : fn.results = #[.cell q 63, .tmp r]) (hb : w1.heap[g]? = some (.cells #[v0, v1, v2, v3, v4, v5, v6, v7] t (0, 0)))
    (ha : a.tmps.getD q undef = .pointer (some ⟨g, 0, none⟩)) (hd : a.defers = []) (hQ : Q (.returned (.tuple #[.agg #[v0, v1, v2, v3, v4, v5, v6, v7], a.tmps.getD r undef])) w1) : bodyPost Try.prog fn Q .ret a w1 := by
  have hl := run_loadVar_row (P := Try.prog) _ g t 63 _ _ _ hb Try.underlying63 rfl (by kernel_rfl)
  have ha' : a.tmps[q]?.getD undef = .pointer (some ⟨g, 0, none⟩) := by simpa using ha
  refine bodyPost_ret (v := .tuple #[.agg #[v0, v1, v2, v3, v4, v5, v6, v7], a.tmps.getD r undef]) ?_ hd hQ
  rw [results_cell_tmp8 hfn]
  simp [asAddr, ha', hl, Result.andThen]
def setsFrom (w : World) (g : Nat) : Nat → List Value → World
  | _, [] => w
  | i, v :: vs => setsFrom (w.setCell ⟨g, i, none⟩ v) g (i + 1) vs
theorem setsFrom_keeps (g : Nat) : ∀ (vs : List Value) (i : Nat) (w : World), Keeps (· = g) w (setsFrom w g i vs)
  | [], _, _ => Keeps.refl _ _
  | v :: vs, i, w => (Keeps.setCell (S := (· = g)) w (a := ⟨g, i, none⟩) rfl v).trans (setsFrom_keeps g vs (i + 1) _) (fun _ f _ => f)
theorem setsFrom_block (g : Nat) (t : TypeId) : ∀ (vs : List Value) (i : Nat) (w : World) (c : Array Value), w.heap[g]? = some (.cells c t (0, 0)) → i + vs.length ≤ c.size →
    ∃ c', (setsFrom w g i vs).heap[g]? = some (.cells c' t (0, 0)) ∧ c'.toList = c.toList.take i ++ vs ++ c.toList.drop (i + vs.length)
  | [], i, w, c, hb, _ => ⟨c, hb, by simp⟩
  | v :: vs, i, w, c, hb, hl => by
    simp only [List.length_cons] at hl
    obtain ⟨c', h1, h2⟩ := setsFrom_block g t vs (i + 1) (w.setCell ⟨g, i, none⟩ v) (c.setIfInBounds i v) (setCell_block hb v) (by simp; omega)
    refine ⟨c', h1, h2.trans ?_⟩
    rw [Array.toList_setIfInBounds]
    have hi : i < c.toList.length := by simp; omega
    have e1 : (c.toList.set i v).take (i + 1) = c.toList.take i ++ [v] := by
      rw [List.set_eq_take_append_cons_drop, if_pos hi, List.take_append]
      have : (c.toList.take i).length = i := by simp; omega
      rw [List.take_of_length_le (by omega), this]
      simp
    have e2 : (c.toList.set i v).drop (i + 1 + vs.length) = c.toList.drop (i + (v :: vs).length) := by
      rw [List.drop_set_of_lt (by omega)]
      simp only [List.length_cons]
      congr 1
      omega
    rw [e1, e2]
    simp
theorem opf_set {w1 : World} {g : Nat} {c : Array Value} {t : TypeId} (hc : c.size = 8) (hb : w1.heap[g]? = some (.cells c t (0, 0))) (v0 v1 v2 v3 v4 v5 v6 v7 : Value) :
    ((((((((w1.setCell ⟨g, 0, none⟩ v0).setCell ⟨g, 1, none⟩ v1).setCell ⟨g, 2, none⟩ v2).setCell ⟨g, 3, none⟩ v3).setCell ⟨g, 4, none⟩ v4).setCell ⟨g, 5, none⟩ v5).setCell ⟨g, 6, none⟩ v6).setCell ⟨g, 7, none⟩ v7).heap[g]? = some (.cells #[v0, v1, v2, v3, v4, v5, v6, v7] t (0, 0)) ∧ Keeps (· = g) w1 ((((((((w1.setCell ⟨g, 0, none⟩ v0).setCell ⟨g, 1, none⟩ v1).setCell ⟨g, 2, none⟩ v2).setCell ⟨g, 3, none⟩ v3).setCell ⟨g, 4, none⟩ v4).setCell ⟨g, 5, none⟩ v5).setCell ⟨g, 6, none⟩ v6).setCell ⟨g, 7, none⟩ v7) := by
  obtain ⟨c', h1, h2⟩ := setsFrom_block g t [v0, v1, v2, v3, v4, v5, v6, v7] 0 w1 c hb (by simp [hc])
  have h3 : c' = #[v0, v1, v2, v3, v4, v5, v6, v7] := by
    apply Array.toList_inj.1
    rw [h2, List.drop_of_length_le (by simp [hc])]
    rfl
  rw [h3] at h1
  exact ⟨h1, setsFrom_keeps g [v0, v1, v2, v3, v4, v5, v6, v7] 0 w1⟩
theorem opf_end1 {Q : Ending → World → Prop} {a : Act} {w1 : World} {g : Nat} {c : Array Value} {t : TypeId} {fn : Func} (q : Tmp) (hfn : fn.results = #[.cell q 63]) (hc : c.size = 8) (hb : w1.heap[g]? = some (.cells c t (0, 0)))
    (ha : a.tmps.getD q undef = .pointer (some ⟨g, 0, none⟩)) (hd : a.defers = []) (v0 v1 v2 v3 v4 v5 v6 v7 : Value) (hQ : ∀ w', Keeps (· = g) w1 w' → Q (.returned (.agg #[v0, v1, v2, v3, v4, v5, v6, v7])) w') : bodyPost Try.prog fn Q .ret a ((((((((w1.setCell ⟨g, 0, none⟩ v0).setCell ⟨g, 1, none⟩ v1).setCell ⟨g, 2, none⟩ v2).setCell ⟨g, 3, none⟩ v3).setCell ⟨g, 4, none⟩ v4).setCell ⟨g, 5, none⟩ v5).setCell ⟨g, 6, none⟩ v6).setCell ⟨g, 7, none⟩ v7) := by
  obtain ⟨h1, h2⟩ := opf_set hc hb v0 v1 v2 v3 v4 v5 v6 v7
  exact opf_ret1 q hfn h1 ha hd (hQ _ h2)
theorem opf_end2 {Q : Ending → World → Prop} {a : Act} {w1 : World} {g : Nat} {c : Array Value} {t : TypeId} {fn : Func} (q r : Tmp) (hfn : fn.results = #[.cell q 63, .tmp r]) (hc : c.size = 8) (hb : w1.heap[g]? = some (.cells c t (0, 0)))
    (ha : a.tmps.getD q undef = .pointer (some ⟨g, 0, none⟩)) (hd : a.defers = []) (v0 v1 v2 v3 v4 v5 v6 v7 : Value) (hQ : ∀ w', Keeps (· = g) w1 w' → Q (.returned (.tuple #[.agg #[v0, v1, v2, v3, v4, v5, v6, v7], a.tmps.getD r undef])) w') : bodyPost Try.prog fn Q .ret a ((((((((w1.setCell ⟨g, 0, none⟩ v0).setCell ⟨g, 1, none⟩ v1).setCell ⟨g, 2, none⟩ v2).setCell ⟨g, 3, none⟩ v3).setCell ⟨g, 4, none⟩ v4).setCell ⟨g, 5, none⟩ v5).setCell ⟨g, 6, none⟩ v6).setCell ⟨g, 7, none⟩ v7) := by
  obtain ⟨h1, h2⟩ := opf_set hc hb v0 v1 v2 v3 v4 v5 v6 v7
  exact opf_ret2 q r hfn h1 ha hd (hQ _ h2)
theorem opfend_any (code v : Int) (w : World) : Calls Try.prog 58 #[.int .i64 code, .int .i64 v] w fun e w' => e = .returned (OpF.ended code v).value ∧ Keeps None w w' := by
  go_enter Try.func58, Try.ntmps58
  go_wp2
  exact opf_ret1 4 rfl (new_at w _ _ rfl) rfl rfl ⟨rfl, Keeps.alloc None w _⟩

structure MidF (w wx : World) (o : OpF) (p : Nat) (F F1 : Nat → Prop) (B : Ar) : Prop where
  box : wx.heap[w.heap.size]? = some (.cells o.vals 63 (0, 0))
  res : wx.heap[w.heap.size + 1]? = some (.cells OpF.zero.vals 63 (0, 0))
  ar : ArF wx p F1 B
  kp : Keeps F w wx
  fo : ∀ k, F1 k → F k ∨ w.heap.size + 2 ≤ k
  lo : ∀ k, F k → k < w.heap.size
section
variable {w wx wy : World} {o : OpF} {p : Nat} {F F1 : Nat → Prop} {A B : Ar}
theorem MidF.start (h : ArF w p F A) (o : OpF) : MidF w ((w.alloc (.cells o.vals 63)).alloc (.cells OpF.zero.vals 63)) o p F F A :=
  ⟨(Below.heap_alloc _ _ _ (by simp)).trans (new_at w _ _ rfl), new_at _ _ _ (by simp), (h.kept (Keeps.alloc None w _) (fun _ _ f => f)).kept (Keeps.alloc None _ _) (fun _ _ f => f),
   ((Keeps.refl F w).andAlloc _).andAlloc _, fun _ f => .inl f, fun _ f => h.lt f⟩
theorem MidF.lt (h : MidF w wx o p F F1 B) : w.heap.size + 1 < wx.heap.size := (Array.getElem?_eq_some_iff.1 h.res).1
theorem MidF.off (h : MidF w wx o p F F1 B) : ¬ F1 w.heap.size ∧ ¬ F1 (w.heap.size + 1) :=
  ⟨fun f => by rcases h.fo _ f with f | f; have := h.lo _ f; omega; omega, fun f => by rcases h.fo _ f with f | f; have := h.lo _ f; omega; omega⟩
theorem MidF.kept (h : MidF w wx o p F F1 B) (hk : Keeps None wx wy) : MidF w wy o p F F1 B := by
  have := h.lt
  exact ⟨(hk.block _ (by omega) (fun f => f)).trans h.box, (hk.block _ (by omega) (fun f => f)).trans h.res, h.ar.kept hk (fun _ _ f => f), h.kp.trans hk (fun _ f _ => f.elim), h.fo, h.lo⟩
theorem MidF.acc (h : MidF w wx o p F F1 A) (h2 : AA wx wy p F1 B) : ∃ F2, MidF w wy o p F F2 B := by
  obtain ⟨F2, g, hk, hf⟩ := h2
  have := h.lt
  refine ⟨F2, (hk.block _ (by omega) h.off.1).trans h.box, (hk.block _ (by omega) h.off.2).trans h.res, g, h.kp.trans hk (fun i f hi => ?_), fun k f => ?_, h.lo⟩
  · rcases h.fo i f with f | f
    · exact f
    · omega
  · rcases hf k f with f | f
    · exact h.fo k f
    · exact .inr (by omega)
theorem MidF.put (h : MidF w wx o p F F1 B) (i : Nat) (v : Value) (o' : OpF) (ho : o'.vals = o.vals.setIfInBounds i v) : MidF w (wx.setCell ⟨w.heap.size, i, none⟩ v) o' p F F1 B := by
  have hk := Keeps.setCell (S := (· = w.heap.size)) wx (a := ⟨w.heap.size, i, none⟩) rfl v
  refine ⟨?_, (hk.block _ h.lt (by omega)).trans h.res, h.ar.kept hk (fun k f e => h.off.1 (e ▸ f)), h.kp.trans hk (fun i e hi => by omega), h.fo, h.lo⟩
  rw [setCell_block h.box v, ho]
theorem MidF.cell (h : MidF w wx o p F F1 B) (i : Nat) : wx.cell? ⟨w.heap.size, i, none⟩ = o.vals[i]? := cell_of_block h.box i
theorem MidF.free (h : MidF w wx o p F F1 B) (i : Nat) : wx.frozen? ⟨w.heap.size, i, none⟩ = false := free_of_block h.box i
theorem MidF.cells {x0 x1 x2 x3 x4 x5 x6 x7 : Int} (h : MidF w wx (OpF.mk x0 x1 x2 x3 x4 x5 x6 x7) p F F1 B) : wx.cell? ⟨w.heap.size, 0, none⟩ = some (.int .i64 x0) ∧ wx.cell? ⟨w.heap.size, 1, none⟩ = some (.int .i64 x1) ∧ wx.cell? ⟨w.heap.size, 2, none⟩ = some (.int .i64 x2) ∧ wx.cell? ⟨w.heap.size, 3, none⟩ = some (.int .i64 x3) ∧ wx.cell? ⟨w.heap.size, 4, none⟩ = some (.int .i64 x4) ∧ wx.cell? ⟨w.heap.size, 5, none⟩ = some (.int .i64 x5) ∧ wx.cell? ⟨w.heap.size, 6, none⟩ = some (.int .i64 x6) ∧ wx.cell? ⟨w.heap.size, 7, none⟩ = some (.int .i64 x7) :=
  ⟨h.cell 0, h.cell 1, h.cell 2, h.cell 3, h.cell 4, h.cell 5, h.cell 6, h.cell 7⟩
theorem MidF.rcells (h : MidF w wx o p F F1 B) : wx.cell? ⟨w.heap.size + 1, 0, none⟩ = some (.int .i64 0) ∧ wx.cell? ⟨w.heap.size + 1, 1, none⟩ = some (.int .i64 0) ∧ wx.cell? ⟨w.heap.size + 1, 2, none⟩ = some (.int .i64 0) ∧ wx.cell? ⟨w.heap.size + 1, 3, none⟩ = some (.int .i64 0) ∧ wx.cell? ⟨w.heap.size + 1, 4, none⟩ = some (.int .i64 0) ∧ wx.cell? ⟨w.heap.size + 1, 5, none⟩ = some (.int .i64 0) ∧ wx.cell? ⟨w.heap.size + 1, 6, none⟩ = some (.int .i64 0) ∧ wx.cell? ⟨w.heap.size + 1, 7, none⟩ = some (.int .i64 0) :=
  ⟨cell_of_block h.res 0, cell_of_block h.res 1, cell_of_block h.res 2, cell_of_block h.res 3, cell_of_block h.res 4, cell_of_block h.res 5, cell_of_block h.res 6, cell_of_block h.res 7⟩
theorem MidF.frees (h : MidF w wx o p F F1 B) : wx.frozen? ⟨w.heap.size, 0, none⟩ = false ∧ wx.frozen? ⟨w.heap.size, 1, none⟩ = false ∧ wx.frozen? ⟨w.heap.size, 2, none⟩ = false ∧ wx.frozen? ⟨w.heap.size, 3, none⟩ = false ∧ wx.frozen? ⟨w.heap.size, 4, none⟩ = false ∧ wx.frozen? ⟨w.heap.size, 5, none⟩ = false ∧ wx.frozen? ⟨w.heap.size, 6, none⟩ = false ∧ wx.frozen? ⟨w.heap.size, 7, none⟩ = false :=
  ⟨free_of_block h.box 0, free_of_block h.box 1, free_of_block h.box 2, free_of_block h.box 3, free_of_block h.box 4, free_of_block h.box 5, free_of_block h.box 6, free_of_block h.box 7⟩
theorem MidF.rfrees (h : MidF w wx o p F F1 B) : wx.frozen? ⟨w.heap.size + 1, 0, none⟩ = false ∧ wx.frozen? ⟨w.heap.size + 1, 1, none⟩ = false ∧ wx.frozen? ⟨w.heap.size + 1, 2, none⟩ = false ∧ wx.frozen? ⟨w.heap.size + 1, 3, none⟩ = false ∧ wx.frozen? ⟨w.heap.size + 1, 4, none⟩ = false ∧ wx.frozen? ⟨w.heap.size + 1, 5, none⟩ = false ∧ wx.frozen? ⟨w.heap.size + 1, 6, none⟩ = false ∧ wx.frozen? ⟨w.heap.size + 1, 7, none⟩ = false :=
  ⟨free_of_block h.res 0, free_of_block h.res 1, free_of_block h.res 2, free_of_block h.res 3, free_of_block h.res 4, free_of_block h.res 5, free_of_block h.res 6, free_of_block h.res 7⟩
theorem MidF.rfree (h : MidF w wx o p F F1 B) (i : Nat) : wx.frozen? ⟨w.heap.size + 1, i, none⟩ = false := free_of_block h.res i
theorem MidF.fin (h : MidF w wx o p F F1 B) (hk : Keeps (· = w.heap.size + 1) wx wy) : AA w wy p F B :=
  ⟨F1, h.ar.kept hk (fun k f e => h.off.2 (e ▸ f)), h.kp.trans hk (fun i e hi => by omega), fun k f => by
    rcases h.fo k f with f | f
    · exact .inl f
    · exact .inr (by omega)⟩
end
end Go.Proofs.Ytaipeclmfgdegaa
