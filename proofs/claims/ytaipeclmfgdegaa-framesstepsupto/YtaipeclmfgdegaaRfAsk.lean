import Derived.Test.YtaipeclmfgdegaaRfPick3
import Derived.Test.YtaipeclmfgdegaaOpenMix
/-! FramesSteps: what came in. -/
namespace Go.Proofs.Ytaipeclmfgdegaa
open Go.RowKit Go.HeapKit Go.IntWalk

/-- The asks, as they came in. -/
def Asks (w : World) (ao : Option Addr) (l : Nat) : Prop := 0 < l → ∃ g off, ao = some ⟨g, off, none⟩ ∧ ∀ i, i < l → ∃ (kd fr sl v xb xf : Int) (od : Bool), w.cell? ⟨g, off + i * 7, none⟩ = some (.int .i64 kd) ∧ w.cell? ⟨g, off + i * 7 + 1, none⟩ = some (.int .i64 fr) ∧ w.cell? ⟨g, off + i * 7 + 2, none⟩ = some (.int .i64 sl) ∧ w.cell? ⟨g, off + i * 7 + 3, none⟩ = some (.int .i64 v) ∧ w.cell? ⟨g, off + i * 7 + 4, none⟩ = some (.bool od) ∧ w.cell? ⟨g, off + i * 7 + 5, none⟩ = some (.int .i64 xb) ∧ w.cell? ⟨g, off + i * 7 + 6, none⟩ = some (.int .i64 xf)
theorem spot8 {w : World} {x : Addr} {v : Value} (h : w.cell? x = some v) : x.spot = none := by
  unfold World.cell? at h
  split at h
  · split at h
    · cases h
    · rename_i hs; simpa using hs
  · cases h
theorem ints8_of {w : World} {a : Option Addr} {len cap : Nat} {zs : List Int} (h : (a = none ∧ len = 0 ∧ cap = 0 ∧ zs = []) ∨ ∃ x, a = some x ∧ len ≤ cap ∧ cap ≤ maxLen ∧ zs.length = cap ∧ (∀ i, i < zs.length → w.cell? (x.add i) = some (.int .i64 (zs.getD i 0))) ∧ ∀ n ∈ zs, (Lit.int .i64 n).wf = true) :
    Ints w a (zs.take len) ∧ (zs.take len).length = len ∧ len ≤ cap := by
  rcases h with ⟨rfl, rfl, rfl, rfl⟩ | ⟨x, rfl, h1, h2, h3, h4, -⟩
  · exact ⟨fun h => by simp at h, by simp, Nat.le_refl _⟩
  · refine ⟨fun h0 => ?_, by simp; omega, h1⟩
    simp only [List.length_take] at h0
    have c0 := h4 0 (by omega)
    have e : x.add 0 = x := by unfold Addr.add; simp
    rw [e] at c0
    have hspot : x.spot = none := spot8 c0
    obtain ⟨b0, off, sp⟩ := x
    simp only at hspot
    subst hspot
    have hlt : b0 < w.heap.size := by
      cases hb : w.heap[b0]? with
      | none => simp [World.cell?, hb] at c0
      | some o => exact (Array.getElem?_eq_some_iff.1 hb).1
    refine ⟨b0, off, rfl, hlt, fun i hi => ?_⟩
    simp only [List.length_take] at hi
    have := h4 i (by omega)
    rw [show (⟨b0, off, none⟩ : Addr).add i = ⟨b0, off + i, none⟩ by unfold Addr.add; split <;> simp_all] at this
    rw [this]
    simp only [List.getD_eq_getElem?_getD, List.getElem?_take]
    rw [if_pos (by omega)]
theorem mix_int {P : Program} {f : Field} {u : Value} (h : MixAt P f u) (hT : P.underlying f.type = some (.int .i64)) : ∃ n : Int, u = .int .i64 n := by
  rcases h with ⟨_, n, e, _⟩ | ⟨h, _⟩
  · exact ⟨n, e⟩
  · rw [hT] at h; cases h
theorem mix_bool {P : Program} {f : Field} {u : Value} (h : MixAt P f u) (hT : P.underlying f.type = some .bool) : ∃ b : Bool, u = .bool b := by
  rcases h with ⟨h, _⟩ | ⟨_, b, e⟩
  · rw [hT] at h; cases h
  · exact ⟨b, e⟩
theorem add_add8 (b off i j : Nat) : ((⟨b, off, none⟩ : Addr).add i).add j = ⟨b, off + i + j, none⟩ := by
  rw [show (⟨b, off, none⟩ : Addr).add i = ⟨b, off + i, none⟩ by unfold Addr.add; split <;> simp_all]
  unfold Addr.add; split <;> simp_all
theorem asks_of {fs : Array Field} {w : World} {a : Option Addr} {len cap : Nat} {g : List (List Value)} (hu : Try.prog.underlying 66 = some (.struct fs)) (h : IsMix Try.prog fs w a len cap g) : Asks w a len ∧ len ≤ cap := by
  have hU := Try.underlying66
  rw [hU] at hu
  injection hu with hu
  injection hu with hu
  subst hu
  rcases h with ⟨rfl, rfl, rfl, _⟩ | ⟨x, rfl, h1, h2, h3, h4⟩
  · exact ⟨fun h => by omega, Nat.le_refl _⟩
  · refine ⟨fun h0 => ?_, h1⟩
    have key : ∀ i, i < len → ∃ (kd fr sl v xb xf : Int) (od : Bool), w.cell? ((x.add (i * 7)).add 0) = some (.int .i64 kd) ∧ w.cell? ((x.add (i * 7)).add 1) = some (.int .i64 fr) ∧ w.cell? ((x.add (i * 7)).add 2) = some (.int .i64 sl) ∧ w.cell? ((x.add (i * 7)).add 3) = some (.int .i64 v) ∧ w.cell? ((x.add (i * 7)).add 4) = some (.bool od) ∧ w.cell? ((x.add (i * 7)).add 5) = some (.int .i64 xb) ∧ w.cell? ((x.add (i * 7)).add 6) = some (.int .i64 xf) := by
      intro i hi
      obtain ⟨ns, hr, hl, hf, hc⟩ := h4 i (by omega)
      obtain ⟨u0, e0, m0⟩ := hf 0 _ rfl
      obtain ⟨u1, e1, m1⟩ := hf 1 _ rfl
      obtain ⟨u2, e2, m2⟩ := hf 2 _ rfl
      obtain ⟨u3, e3, m3⟩ := hf 3 _ rfl
      obtain ⟨u4, e4, m4⟩ := hf 4 _ rfl
      obtain ⟨u5, e5, m5⟩ := hf 5 _ rfl
      obtain ⟨u6, e6, m6⟩ := hf 6 _ rfl
      obtain ⟨n0, rfl⟩ := mix_int m0 Try.underlying3
      obtain ⟨n1, rfl⟩ := mix_int m1 Try.underlying3
      obtain ⟨n2, rfl⟩ := mix_int m2 Try.underlying3
      obtain ⟨n3, rfl⟩ := mix_int m3 Try.underlying2
      obtain ⟨n4, rfl⟩ := mix_bool m4 Try.underlying4
      obtain ⟨n5, rfl⟩ := mix_int m5 Try.underlying3
      obtain ⟨n6, rfl⟩ := mix_int m6 Try.underlying3
      exact ⟨n0, n1, n2, n3, n5, n6, n4, hc 0 _ e0, hc 1 _ e1, hc 2 _ e2, hc 3 _ e3, hc 4 _ e4, hc 5 _ e5, hc 6 _ e6⟩
    obtain ⟨kd, _, _, _, _, _, _, c0, _⟩ := key 0 h0
    have e : (x.add (0 * 7)).add 0 = x := by unfold Addr.add; simp
    rw [e] at c0
    have hspot : x.spot = none := spot8 c0
    obtain ⟨b0, off, sp⟩ := x
    simp only at hspot
    subst hspot
    refine ⟨b0, off, rfl, fun i hi => ?_⟩
    have := key i hi
    simp only [add_add8, Nat.add_zero] at this
    exact this
end Go.Proofs.Ytaipeclmfgdegaa
