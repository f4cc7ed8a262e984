import Derived.Test.YthignlailbekmaaDoorRtMore
/-! SerialTree: the copies written over. -/
namespace Go.Proofs.YthignlailbekmaaDoor
set_option linter.unusedVariables false
set_option maxRecDepth 20000
open Go.RowKit Go.HeapKit Go.PlainOps

theorem ints_put (zs : List Int) (k : Nat) (y : Int) : (ints zs).set k (.int .i64 y) = ints (zs.set k y) := by
  unfold ints
  rw [List.map_set]
theorem ok_put {zs : List Int} {k : Nat} {y : Int} (h : ∀ x ∈ zs, okI x) (hy : okI y) : ∀ x ∈ zs.set k y, okI x := fun x hx => by
  rcases List.mem_or_eq_of_mem_set hx with h1 | h1
  · exact h x h1
  · rw [h1]; exact hy
/-- One of the arguments is written over. -/
theorem Al.putB {W wr : World} {Q : Nat} {l : List Fn} {qv : Value} {tq : List At} {ba : Option Addr} {bc an : Nat} {zs : List Int} (h : Al W wr Q l qv tq (.slice ba an bc) an zs) (hn : an = zs.length) {k : Nat} {x : Int} (hx : zs[k]? = some x) :
    ∃ g, ba = some ⟨g, 0, none⟩ ∧ wr.frozen? ⟨g, k, none⟩ = false ∧ wr.cell? ⟨g, k, none⟩ = some (.int .i64 x) ∧ ∀ y, Al W (wr.setCell ⟨g, k, none⟩ (.int .i64 y)) Q l qv tq (.slice (some ⟨g, 0, none⟩) an bc) an (zs.set k y) := by
  have hkl := (List.getElem?_eq_some_iff.1 hx).1
  rcases h.brow.2 with ⟨_, h0⟩ | ⟨g, cap, cur, he, hb0, hg, hnc, hcm, hcs, htk⟩
  · omega
  · injection he with e1 e2 e3
    subst e1
    refine ⟨g, rfl, blk_free hg k, ?_, fun y => ?_⟩
    · have h1 := ints_at zs k x hx
      rw [← htk, List.getElem?_take] at h1
      rw [blk_cell hg, ← Array.getElem?_toList]
      split at h1
      · exact h1
      · cases h1
    · have hk : Keeps (· = g) wr (wr.setCell ⟨g, k, none⟩ (.int .i64 y)) := Keeps.setCell (S := (· = g)) wr (a := ⟨g, k, none⟩) rfl _
      have hl := h.blow g rfl
      refine ⟨h.keep.trans hk (fun i e hi => by omega), h.qlow, blk_kept h.qb hk (fun e => ?_), h.cp.kept hk (fun g' e q => absurd (own_type h.cp.row e (q ▸ hg)) (by decide)) (fun i t g' ht e q => ?_), ?_, h.blow⟩
      · have h1 := h.qb
        rw [e, hg] at h1
        injection h1 with h1
        injection h1 with _ h1
        exact absurd h1 (by decide)
      · obtain ⟨f, hf⟩ : ∃ f, l[i]? = some f := ⟨l[i]'(by have := (List.getElem?_eq_some_iff.1 ht).1; have := h.cp.len; omega), by simp⟩
        have hc := h.cp.code i f t hf ht
        exact absurd (own_type hc (by rw [← e]; exact At.blk_slice _ _ _ _) (q ▸ hg)) (by decide)
      · rw [← ints_put]
        exact own_put _ h.brow
/-- One constant of the program is written over. -/
theorem Al.putK {W wr : World} {Q : Nat} {l : List Fn} {qa : Option Addr} {qc n : Nat} {tq : List At} {bv : Value} {an : Nat} {zs : List Int} (h : Al W wr Q l (.slice qa n qc) tq bv an zs) (hn : n = l.length) {i k : Nat} {f : Fn} {x : Ins} (hf : l[i]? = some f) (hx : f.code[k]? = some x) :
    ∃ g cb cc, qa = some ⟨g, 0, none⟩ ∧ wr.cell? ⟨g, i * 4 + 3, none⟩ = some (.slice (some ⟨cb, 0, none⟩) f.code.length cc) ∧ InsAt wr cb (k * 5) x ∧ wr.frozen? ⟨cb, k * 5 + 4, none⟩ = false ∧ cb ≠ Q ∧ cb ≠ g ∧
      ∀ y, Al W (wr.setCell ⟨cb, k * 5 + 4, none⟩ (.int .i64 y)) Q (l.set i { f with code := f.code.set k { x with k := y } }) (.slice qa n qc) tq bv an zs := by
  have hil := (List.getElem?_eq_some_iff.1 hf).1
  obtain ⟨t, ht⟩ : ∃ t, tq[i]? = some t := ⟨tq[i]'(by rw [h.cp.len]; exact hil), by simp⟩
  have four : ∀ r ∈ List.zipWith tfCells l tq, r.length = 4 := fun r hr => by
    obtain ⟨i, hi, rfl⟩ := List.mem_iff_getElem.1 hr
    rw [List.getElem_zipWith]
    rfl
  have hz := zip_at tfCells l tq i f t hf ht
  rcases h.cp.row.2 with ⟨_, h0⟩ | ⟨g, cap, cur, he, hb0, hg, hnc, hcm, hcs, htk⟩
  · omega
  · injection he with e1 e2 e3
    obtain ⟨cb, ht1, hin, hfz, _⟩ := h.cp.put hf hx ht 0
    obtain ⟨C0, hC0⟩ : ∃ C, wr.heap[cb]? = some (.cells C 46 (0, 0)) := own_block (h.cp.code i f t hf ht) (by rw [ht1]; rfl)
    refine ⟨g, cb, t.2, e1, ?_, hin, hfz _, fun e => ?_, fun e => ?_, fun y => ?_⟩
    · have h1 := flat4_at _ four i _ hz 3 (by omega)
      rw [blk_cell hg, ← Array.getElem?_toList]
      have h2 : (List.zipWith tfCells l tq).flatten[i * 4 + 3]? = some (.slice t.1 f.code.length t.2) := h1
      rw [← htk, List.getElem?_take, if_pos (by omega), ht1] at h2
      exact h2
    · have h1 := h.qb
      rw [← e, hC0] at h1
      injection h1 with h1
      injection h1 with _ h1
      exact absurd h1 (by decide)
    · rw [e, hg] at hC0
      injection hC0 with h1
      injection h1 with _ h1
      exact absurd h1 (by decide)
    · obtain ⟨cb', ht1', _, _, hcp, hk, hbl⟩ := h.cp.put hf hx ht y
      have ecb : cb' = cb := by
        rw [ht1] at ht1'
        injection ht1' with q
        injection q with q
        exact q.symm
      subst ecb
      obtain ⟨C, hC⟩ : ∃ C, wr.heap[cb']? = some (.cells C 46 (0, 0)) := own_block (h.cp.code i f t hf ht) (by rw [ht1]; rfl)
      refine ⟨h.keep.trans hk (fun i e hi => by omega), h.qlow, blk_kept h.qb hk (fun e => ?_), hcp, hk.own h.brow (fun g' e q => absurd (own_type h.brow e (q ▸ hC)) (by decide)), h.blow⟩
      have h1 := h.qb
      rw [e, hC] at h1
      injection h1 with h1
      injection h1 with _ h1
      exact absurd h1 (by decide)
theorem putK_ok {l : List Fn} {i k : Nat} {f : Fn} {x : Ins} {y : Int} (h : ∀ f ∈ l, f.Ok) (hf : l[i]? = some f) (hx : f.code[k]? = some x) (hy : okI y) : ∀ f' ∈ l.set i { f with code := f.code.set k { x with k := y } }, f'.Ok := fun f' hf' => by
  have hF := h f (List.mem_of_getElem? hf)
  rcases List.mem_or_eq_of_mem_set hf' with h1 | h1
  · exact h f' h1
  · subst h1
    refine ⟨hF.params, hF.regs, hF.slots, fun x' hx' => ?_⟩
    rcases List.mem_or_eq_of_mem_set hx' with h2 | h2
    · exact hF.code x' h2
    · subst h2
      have hX := hF.code x (List.mem_of_getElem? hx)
      exact ⟨hX.kind, hX.a, hX.b, hX.c, hy⟩
theorem flip_ok (x y : Int) : okI (bits BinOp.xor .i64 x y) := by
  rw [bits_xor]
  exact bvOk _
end Go.Proofs.YthignlailbekmaaDoor
