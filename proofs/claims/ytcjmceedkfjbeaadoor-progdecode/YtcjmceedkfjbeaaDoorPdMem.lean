import Derived.Test.YtcjmceedkfjbeaaDoorPgDecU
import Derived.Test.YtcjmceedkfjbeaaDoorPwOdd
/-! ProgDecode: an answer of Decode that is written over. -/
namespace Go.Proofs.YtcjmceedkfjbeaaDoor
set_option linter.unusedVariables false
set_option maxRecDepth 20000
open Go.RowKit Go.HeapKit

theorem IsCode.isC {w : World} {cb : Nat} {cs : List Ins} (h : IsCode w cb cs) : IsC w cb cs := h.blk
/-- Functions in memory of their own, their codes from lo up to hi; or none. -/
def AnsH (lo hi : Nat) (w : World) (xa : Option Addr) (m : Nat) (fs : List Fn) : Prop := (m = 0 ∧ fs = []) ∨ ∃ gb E, xa = some ⟨gb, 0, none⟩ ∧ DecM lo w gb m E fs ∧ ∀ (j : Nat) (f : Fn) (cb : Nat), E[j]? = some (e4 f cb) → cb < hi
theorem AnsD.hi {lo : Nat} {w : World} {xa : Option Addr} {m : Nat} {fs : List Fn} (h : AnsD lo w xa m fs) : AnsH lo w.heap.size w xa m fs := by
  rcases h with h | ⟨gb, E, e, h⟩
  · exact .inl h
  · refine .inr ⟨gb, E, e, h, fun j f cb he => ?_⟩
    have hj : j < m := by have := (List.getElem?_eq_some_iff.1 he).1; have := h.len; omega
    obtain ⟨c2, q1, q2, _⟩ := h.laid j (fs[j]'(by have := h.num; omega)) hj (by simp)
    rw [he] at q1
    rw [e4_inj (Option.some.inj q1)]
    exact blk_lt q2.blk
theorem AnsH.more {lo hi : Nat} {w w' : World} {xa : Option Addr} {m : Nat} {fs : List Fn} (h : AnsH lo hi w xa m fs) (hk : Keeps None w w') : AnsH lo hi w' xa m fs := by
  rcases h with h | ⟨gb, E, e, h, h2⟩
  · exact .inl h
  · exact .inr ⟨gb, E, e, h.more hk, h2⟩
theorem AnsH.len {lo hi : Nat} {w : World} {xa : Option Addr} {m : Nat} {fs : List Fn} (h : AnsH lo hi w xa m fs) : m = fs.length := by
  rcases h with ⟨h1, h2⟩ | ⟨gb, E, e, h, h2⟩
  · rw [h1, h2]; rfl
  · exact h.num
theorem AnsH.seen {lo hi : Nat} {w : World} {xa : Option Addr} {m : Nat} {fs : List Fn} (h : AnsH lo hi w xa m fs) : SeenF w xa m fs := by
  rcases h with ⟨rfl, rfl⟩ | ⟨gb, E, rfl, h, _⟩
  · exact seen_nil w xa
  · exact h.seen
/-- One function of it. -/
theorem AnsH.at {lo hi : Nat} {w : World} {xa : Option Addr} {m : Nat} {fs : List Fn} (h : AnsH lo hi w xa m fs) {i : Nat} {f : Fn} (hf : fs[i]? = some f) :
    ∃ gb cb, xa = some ⟨gb, 0, none⟩ ∧ w.cell? ⟨gb, i * 4 + 3, none⟩ = some (.slice (some ⟨cb, 0, none⟩) f.code.length f.code.length) ∧ IsCode w cb f.code ∧ lo ≤ cb ∧ cb < hi ∧ cb ≠ gb ∧
      ∀ k (x : Ins), k < f.code.length → AnsH lo hi (set5 w cb (k * 5) x) xa m (fs.set i { f with code := f.code.set k x }) := by
  have hil := (List.getElem?_eq_some_iff.1 hf).1
  rcases h with ⟨h1, h2⟩ | ⟨gb, E, rfl, h, hh⟩
  · subst h2; simp at hil
  · have him : i < m := by have := h.num; omega
    obtain ⟨cb, q1, q2, q3⟩ := h.laid i f him hf
    obtain ⟨_, _, _, c3⟩ := v4_at E i _ q1
    have ncb : cb ≠ gb := blk_ne q2.blk h.blk.blk (by decide)
    refine ⟨gb, cb, rfl, by rw [blk_cell h.blk.blk]; simpa [e4] using c3, q2, q3, hh i f cb q1, ncb, fun k x hk => .inr ⟨gb, E, rfl, ?_, hh⟩⟩
    obtain ⟨hc', hk'⟩ := q2.set k hk x
    refine ⟨h.blk.kept hk' (fun e => ncb e.symm), h.len, by rw [List.length_set]; exact h.num, fun j f' hj hf' => ?_, h.low, h.dis⟩
    by_cases ej : i = j
    · subst ej
      rw [List.getElem?_set_self hil] at hf'
      obtain rfl := Option.some.inj hf'
      exact ⟨cb, by rw [q1]; simp [e4], hc', q3⟩
    · rw [List.getElem?_set_ne ej] at hf'
      obtain ⟨cb', p1, p2, p3⟩ := h.laid j f' hj hf'
      exact ⟨cb', p1, p2.kept hk' (fun e => h.dis i j f f' cb cb' him hj ej q1 p1 e.symm), p3⟩
theorem own_less {w : World} {base base' : Nat} {v : Value} {n : Nat} {vs : List Value} (h : w.ownsRow base' 42 5 v n vs) (hb : base ≤ base') : w.ownsRow base 42 5 v n vs := by
  refine ⟨h.1, ?_⟩
  rcases h.2 with h0 | ⟨g, cap, cur, h1, h2, h3⟩
  · exact .inl h0
  · exact .inr ⟨g, cap, cur, h1, Nat.le_trans hb h2, h3⟩
theorem own_from {w : World} {base : Nat} {v : Value} {n i : Nat} {vs : List Value} (h : w.ownsRow base 42 5 v n vs) (e : v.ownBlock = some i) : base ≤ i := by
  rcases h.2 with ⟨rfl, _⟩ | ⟨g, cap, cur, rfl, h2, h3⟩
  · simp [Value.ownBlock] at e
  · simp [Value.ownBlock] at e; omega
theorem ins_more (base : Nat) (v : Value) (l : List Ins) (x : Ins) (n g ty : Nat) (w : World) (hn : n = l.length) (h : w.ownsRow base 42 5 v n (insVals l)) (hb : base ≤ w.heap.size) (hlen : (n + 1) * 40 ≤ 140737488355328)
    (hg : w.heap[g]? = some (.cells #[.int .i64 x.kind, .int .i64 x.a, .int .i64 x.b, .int .i64 x.c, .int .i64 x.k] 42 (0, 0))) :
    ∃ b cap w', (Builtin.append_ #[38, 38] ty #[v, .slice (some ⟨g, 0, none⟩) 1 1]).run Tryd.prog w = .ok (.slice (some ⟨b, 0, none⟩) (n + 1) cap) w' ∧
      w'.ownsRow base 42 5 (.slice (some ⟨b, 0, none⟩) (n + 1) cap) (n + 1) (insVals (l ++ [x])) ∧ Keeps (fun k => v.ownBlock = some k) w w' := by
  obtain ⟨b, cap, w', hr, ho, hk, hlo⟩ := ins_append v l x n g ty w hn (own_less h (Nat.zero_le _)) hlen hg
  refine ⟨b, cap, w', hr, ⟨ho.1, ?_⟩, hk⟩
  rcases ho.2 with h0 | ⟨g', cap', cur, h1, h2, h3⟩
  · exact .inl h0
  · refine .inr ⟨g', cap', cur, h1, ?_, h3⟩
    injection h1 with e1
    injection e1 with e1
    injection e1 with e1
    rcases hlo with e | e
    · have := own_from h e
      omega
    · omega
/-- How far it is written over. -/
def Over (fs fs' : List Fn) (i k : Nat) : Prop := fs'.length = fs.length ∧ ∀ j f, fs[j]? = some f → ∃ g, fs'[j]? = some g ∧ g.code.length = f.code.length ∧ ∀ q, q < f.code.length → (j < i ∨ j = i ∧ q < k) → g.code[q]? = some (oddI ((j : Int) + (q : Int)))
theorem over_start (fs : List Fn) : Over fs fs 0 0 := ⟨rfl, fun j f hf => ⟨f, hf, rfl, fun q hq h => by omega⟩⟩
theorem Over.next {fs fs' : List Fn} {i k : Nat} (h : Over fs fs' i k) {f : Fn} (hf : fs[i]? = some f) (hk : f.code.length ≤ k) : Over fs fs' (i + 1) 0 := by
  refine ⟨h.1, fun j f' hf' => ?_⟩
  obtain ⟨g, h1, h2, h3⟩ := h.2 j f' hf'
  refine ⟨g, h1, h2, fun q hq ho => h3 q hq ?_⟩
  by_cases ej : j = i
  · subst ej
    rw [hf] at hf'
    obtain rfl := Option.some.inj hf'
    exact .inr ⟨rfl, by omega⟩
  · exact .inl (by omega)
theorem Over.step {fs fs' : List Fn} {i k : Nat} (h : Over fs fs' i k) {g : Fn} (hg : fs'[i]? = some g) (hk : k < g.code.length) : Over fs (fs'.set i { g with code := g.code.set k (oddI ((i : Int) + (k : Int))) }) i (k + 1) := by
  have hil := (List.getElem?_eq_some_iff.1 hg).1
  refine ⟨by rw [List.length_set]; exact h.1, fun j f' hf' => ?_⟩
  obtain ⟨g', h1, h2, h3⟩ := h.2 j f' hf'
  by_cases ej : i = j
  · subst ej
    rw [hg] at h1
    obtain rfl := Option.some.inj h1
    refine ⟨_, List.getElem?_set_self hil, by simpa using h2, fun q hq ho => ?_⟩
    by_cases eq : k = q
    · subst eq
      exact List.getElem?_set_self hk
    · show (g.code.set k _)[q]? = _
      rw [List.getElem?_set_ne eq]
      exact h3 q hq (by omega)
  · refine ⟨g', by rw [List.getElem?_set_ne ej]; exact h1, h2, fun q hq ho => h3 q hq (by omega)⟩
end Go.Proofs.YtcjmceedkfjbeaaDoor
