import Derived.WalkKit
import Derived.ProofKit
import Derived.OpenShut
import Derived.Deep.Slices
/-! Slices of structs of 64-bit numbers and bools among the arguments. Whatever the program. -/
namespace Go.HeapKit
open Go.ChangeShapes Go.WideShapes Go.ChangeAt Go.RowKit Go.Deep

section
variable {H : Type} {enc : TypeId × Value → H} {P : Program} {w : World} {base : Nat} {spare : Nat → Bool} {held : Bool}

/-- All fields are 64-bit numbers or bools, one cell each, in order. -/
def allMix (P : Program) (fs : List Field) : Bool :=
  (List.range fs.length).all fun i => match fs[i]? with
    | some f => f.offset == i && (match P.underlying f.type with | some (.int .i64) => true | some .bool => true | _ => false) && P.cellsOf f.type == 1
    | none => false
def MixAt (P : Program) (f : Field) (u : Value) : Prop :=
  (P.underlying f.type = some (.int .i64) ∧ ∃ n : Int, u = .int .i64 n ∧ (Lit.int .i64 n).wf = true) ∨ (P.underlying f.type = some .bool ∧ ∃ b, u = .bool b)
theorem allMix_at {fs : List Field} (h : allMix P fs = true) {i : Nat} {f : Field} (hf : fs[i]? = some f) : f.offset = i ∧ (P.underlying f.type = some (.int .i64) ∨ P.underlying f.type = some .bool) ∧ P.cellsOf f.type = 1 := by
  have hi : i < fs.length := (List.getElem?_eq_some_iff.1 hf).1
  have := List.all_eq_true.1 h i (List.mem_range.2 hi)
  rw [hf] at this
  simp only [Bool.and_eq_true, beq_iff_eq] at this
  obtain ⟨⟨h1, h2⟩, h3⟩ := this
  refine ⟨h1, ?_, h3⟩
  split at h2
  · exact .inl (by assumption)
  · exact .inr (by assumption)
  · cases h2
theorem struct_mix {t : TypeId} {fs : Array Field} {fuel : Nat} {cs : List Value} {x : DataW H × List MemPlace} (ht : P.underlying t = some (.struct fs)) (ha : allMix P fs.toList = true) (hc : P.cellsOf t = fs.size)
    (h : DataW.trod enc P w base spare held fuel t cs = some x) : cs.length = fs.size ∧ ∀ (k : Nat) (f : Field), fs[k]? = some f → ∃ u, cs[k]? = some u ∧ MixAt P f u := by
  obtain ⟨xs, n, _, rfl, hl, hlen, hf⟩ := DataW.trod_struct ht h
  rw [hc] at hl
  refine ⟨hl, fun i f hfi => ?_⟩
  have hi : i < fs.size := (Array.getElem?_eq_some_iff.1 hfi).1
  obtain ⟨h1, h2, h3⟩ := allMix_at ha (i := i) (f := f) (by simpa using hfi)
  have hq := hf i f hfi
  rw [h1, h3, show xs[i]? = some xs[i] by simp] at hq
  have key : ∀ u, List.take 1 (List.drop i cs) = [u] → cs[i]? = some u := fun u e => by
    have : (List.take 1 (List.drop i cs))[0]? = some u := by rw [e]; rfl
    simpa [List.getElem?_take, List.getElem?_drop] using this
  rcases h2 with h2 | h2
  · obtain ⟨m, hm, _, hw⟩ := DataW.trod_int h2 hq
    exact ⟨_, key _ hm, .inl ⟨h2, m, rfl, hw⟩⟩
  · obtain ⟨b, hb, _⟩ := DataW.trod_bool h2 hq
    exact ⟨_, key _ hb, .inr ⟨h2, b, rfl⟩⟩
/-- A slice of such structs that came in: nil; or 'cap' rows. -/
def IsMix (P : Program) (fs : Array Field) (w : World) (a : Option Addr) (len cap : Nat) (rows : List (List Value)) : Prop :=
  (a = none ∧ len = 0 ∧ cap = 0 ∧ rows = []) ∨
  ∃ x : Addr, a = some x ∧ len ≤ cap ∧ cap ≤ maxLen ∧ rows.length = cap ∧ (∀ i, i < cap → ∃ ns : List Value, rows[i]? = some ns ∧ ns.length = fs.size ∧ (∀ (k : Nat) (f : Field), fs[k]? = some f → ∃ u, ns[k]? = some u ∧ MixAt P f u) ∧ ∀ j m, ns[j]? = some m → w.cell? ((x.add (i * fs.size)).add j) = some m)
theorem mix_slice {t e : TypeId} {x : Addr} {len cap : Nat} {d : DataW H} {ps : List MemPlace} (ht : P.underlying t = some (.slice e)) (hd : DataW.Trod enc P w base spare held t (.slice (some x) len cap) d ps) : ∃ elems sp, d = .slice elems sp := by
  obtain ⟨fuel, hf⟩ := hd
  rcases open_slice ht hf with ⟨h0, _⟩ | ⟨x, l, c, m, n, D, Pl, hcs, _, _, _, _, hx, _⟩
  · simp [Value.cells] at h0
  · simp only [Prod.mk.injEq] at hx
    exact ⟨_, _, hx.1⟩
theorem open_mix {t e : TypeId} {fs : Array Field} {a : Option Addr} {len cap : Nat} {d : DataW H} {ps : List MemPlace} (ht : P.underlying t = some (.slice e)) (he : P.underlying e = some (.struct fs)) (ha : allMix P fs.toList = true) (hc : P.cellsOf e = fs.size)
    (hd : DataW.Trod enc P w base (fun _ => true) held t (.slice a len cap) d ps) : (∃ rows, IsMix P fs w a len cap rows) ∧ ∀ elems sp, d = .slice elems sp → elems.length + sp.length = cap := by
  obtain ⟨fuel, hf⟩ := hd
  rcases open_slice ht hf with ⟨h0, hx⟩ | ⟨x, l, c, m, n, D, Pl, hcs, _, hl, hm, hmm, hx, hall⟩
  · simp [Value.cells] at h0
    obtain ⟨rfl, rfl, rfl⟩ := h0
    simp only [Prod.mk.injEq] at hx
    exact ⟨⟨[], .inl ⟨rfl, rfl, rfl, rfl⟩⟩, fun elems sp e => by rw [hx.1] at e; cases e⟩
  · simp [Value.cells] at hcs
    obtain ⟨rfl, rfl, rfl⟩ := hcs
    have hmc : m = cap := by simpa using hmm
    subst hmc
    simp only [Prod.mk.injEq] at hx
    refine ⟨?_, fun elems sp e => by rw [hx.1] at e; injection e with e1 e2; rw [← e1, ← e2]; simp; omega⟩
    have hrow : ∀ i, i < m → ∃ ns : List Value, ns.length = fs.size ∧ (∀ (k : Nat) (f : Field), fs[k]? = some f → ∃ u, ns[k]? = some u ∧ MixAt P f u) ∧ ∀ j m, ns[j]? = some m → w.cell? ((x.add (i * fs.size)).add j) = some m := by
      intro i hi
      obtain ⟨cs', h1, h2⟩ := hall i hi
      rw [hc] at h1
      obtain ⟨hl, hw⟩ := struct_mix he ha hc h2
      refine ⟨cs', hl, hw, ?_⟩
      intro j m hj
      obtain ⟨_, hlen, hcell⟩ := World.cells?_some h1
      rw [hcell j (by have := (List.getElem?_eq_some_iff.1 hj).1; omega)]
      simp [hj]
    have hex : ∀ k, k ≤ m → ∃ rows : List (List Value), rows.length = k ∧ ∀ i, i < k → ∃ ns : List Value, rows[i]? = some ns ∧ ns.length = fs.size ∧ (∀ (k : Nat) (f : Field), fs[k]? = some f → ∃ u, ns[k]? = some u ∧ MixAt P f u) ∧ ∀ j m, ns[j]? = some m → w.cell? ((x.add (i * fs.size)).add j) = some m := by
      intro k
      induction k with
      | zero => exact fun _ => ⟨[], rfl, fun _ h => by omega⟩
      | succ k ih =>
        intro hk
        obtain ⟨rows, hrl, hr⟩ := ih (by omega)
        obtain ⟨ns, h1, h2, h3⟩ := hrow k (by omega)
        refine ⟨rows ++ [ns], by simp [hrl], ?_⟩
        intro i hi
        by_cases hik : i < k
        · obtain ⟨ns', e, r⟩ := hr i hik
          exact ⟨ns', by rw [List.getElem?_append_left (by omega)]; exact e, r⟩
        · obtain rfl : i = k := by omega
          exact ⟨ns, by rw [List.getElem?_append_right (by omega), hrl]; simp, h1, h2, h3⟩
    obtain ⟨rows, hrl, hr⟩ := hex m (Nat.le_refl _)
    exact ⟨rows, .inr ⟨x, rfl, hl, hm, hrl, hr⟩⟩
end
end Go.HeapKit
