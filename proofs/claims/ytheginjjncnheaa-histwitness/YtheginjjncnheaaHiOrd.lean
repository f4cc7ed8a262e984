import Derived.Test.YtheginjjncnheaaHiAllows
/-! Lists of numbers of calls; what an order is, plainly. -/
namespace Go.Proofs.Ytheginjjncnheaa
set_option linter.unusedVariables false
set_option maxRecDepth 20000
open Go.RowKit Go.HeapKit

/-- A list of numbers that can be read. -/
structure SeenI (w : World) (a : Option Addr) (n : Nat) (zs : List Int) : Prop where
  len : n = zs.length
  ex : 0 < n → ∃ b off, a = some ⟨b, off, none⟩ ∧ b < w.heap.size ∧ ∀ k z, zs[k]? = some z → w.cell? ⟨b, off + k, none⟩ = some (.int .i64 z)
section
variable {w w' : World} {a : Option Addr} {n : Nat} {zs : List Int}
theorem SeenI.kept (h : SeenI w a n zs) {S : Nat → Prop} (hk : Keeps S w w') (hS : 0 < n → ∀ b, blockOf a = some b → b < w.heap.size → ¬ S b) : SeenI w' a n zs := by
  refine ⟨h.len, fun h0 => ?_⟩
  obtain ⟨b, off, rfl, hb, hc⟩ := h.ex h0
  exact ⟨b, off, rfl, Nat.lt_of_lt_of_le hb hk.size, fun k z hz => hk.cell (hc k z hz) (hS h0 b rfl hb)⟩
theorem SeenI.more (h : SeenI w a n zs) (hk : Keeps None w w') : SeenI w' a n zs := h.kept hk (fun _ _ _ _ f => f)
theorem SeenI.low (h : SeenI w a n zs) (h0 : 0 < n) {b : Nat} (hb : blockOf a = some b) : b < w.heap.size := by
  obtain ⟨b', off, rfl, hlt, _⟩ := h.ex h0
  simp [blockOf] at hb
  omega
end
theorem Try.infoInt : (Try.prog.info? 3).map (fun i => (i.zero, i.size, i.bytes)) = some (some (.int .i64 0), 1, 8) := by kernel_rfl
theorem Try.infoBool : (Try.prog.info? 4).map (fun i => (i.zero, i.size, i.bytes)) = some (some (.bool false), 1, 1) := by kernel_rfl
/-- 'append(l, z)' of a number. -/
theorem int_more (base : Nat) (s : Value) (l : List Int) (x : Int) (n ty g0 : Nat) (w : World) (hn : n = l.length) (h : w.ownsRow base 3 1 s n (l.map (Value.int .i64))) (hb : base ≤ w.heap.size) (hlen : (n + 1) * 8 ≤ 140737488355328)
    (hg0 : w.heap[g0]? = some (.cells #[.int .i64 x] 3 (0, 0))) :
    ∃ g cap w', (Builtin.append_ #[32, 32] ty #[s, .slice (some ⟨g0, 0, none⟩) 1 1]).run Try.prog w = .ok (.slice (some ⟨g, 0, none⟩) (n + 1) cap) w' ∧
      w'.ownsRow base 3 1 (.slice (some ⟨g, 0, none⟩) (n + 1) cap) (n + 1) ((l ++ [x]).map (Value.int .i64)) ∧ Keeps (fun k => s.ownBlock = some k) w w' ∧ (s.ownBlock = some g ∨ w.heap.size ≤ g) := by
  obtain ⟨i0, hi, hz0, hz1, hz2⟩ := info_parts Try.infoInt
  obtain ⟨v', w1, hr, ho, hgr, hm, -⟩ := run_append_moved (P := Try.prog) w base 32 ty 3 i0 _ 1 8 Try.underlying32 hi hz0 hz1 hz2 rfl (by decide) s n _ h
    ⟨g0, 0, none⟩ 1 1 [.int .i64 x] rfl (by
      intro j u hu
      rw [show (⟨g0, 0, none⟩ : Addr).add j = ⟨g0, j, none⟩ by unfold Addr.add; split <;> simp_all, blk_cell hg0]
      simpa using hu) (by
      intro u hu
      simp at hu
      subst hu
      rfl) (by unfold maxLen; omega) hlen hb
  obtain ⟨g, cap, rfl⟩ : ∃ g cap, v' = .slice (some ⟨g, 0, none⟩) (n + 1) cap := by
    rcases ho.2 with ⟨_, h0⟩ | ⟨b, cap, cur, rfl, _⟩
    · omega
    · exact ⟨b, cap, rfl⟩
  refine ⟨g, cap, w1, hr, by rw [List.map_append]; exact ho, (Keeps.refl _ w).andGrown hgr (fun k e => .inl e), ?_⟩
  rcases hm with hm | ⟨g', e, hg⟩
  · exact .inl (hm.symm.trans rfl)
  · simp [Value.ownBlock] at e; exact .inr (by omega)
theorem vals_elem {w : World} {base : Nat} {e : TypeId} {a : Option Addr} {n c : Nat} {xs : List Value} {k : Nat} {u : Value} (h : w.ownsRow base e 1 (.slice a n c) n xs) (hx : xs[k]? = some u) :
    ∃ g, a = some ⟨g, 0, none⟩ ∧ base ≤ g ∧ g < w.heap.size ∧ n ≤ c ∧ w.cell? ⟨g, k, none⟩ = some u ∧ ∀ i, w.frozen? ⟨g, i, none⟩ = false := by
  have hlen : xs.length = n := by have := h.1; omega
  have hk := (List.getElem?_eq_some_iff.1 hx).1
  rcases h.2 with ⟨_, h1⟩ | ⟨g, cap, cur, hv, hbg, hg, hnc, hcm, hcs, htake⟩
  · omega
  · injection hv with e1 e2 e3
    subst e1 e3
    refine ⟨g, rfl, hbg, (Array.getElem?_eq_some_iff.1 hg).1, hnc, ?_, fun i => blk_free hg i⟩
    rw [blk_cell hg]
    rw [← htake, List.getElem?_take] at hx
    split at hx
    · simpa using hx
    · cases hx

/-- Which numbers stand among the first k of a list. -/
def markL (f : Bool → Value) (n : Nat) (zs : List Int) (k : Nat) : List Value := (List.range n).map (fun (j : Nat) => f ((zs.take k).contains (j : Int)))
theorem markL_length (f : Bool → Value) (n : Nat) (zs : List Int) (k : Nat) : (markL f n zs k).length = n := by simp [markL]
theorem markL_at (f : Bool → Value) {n : Nat} (zs : List Int) (k : Nat) {j : Nat} (hj : j < n) : (markL f n zs k)[j]? = some (f ((zs.take k).contains (j : Int))) := by simp [markL, hj]
theorem markL_zero (f : Bool → Value) (n : Nat) (zs : List Int) : markL f n zs 0 = List.replicate n (f false) := by
  unfold markL
  apply List.ext_getElem?
  intro j
  by_cases hj : j < n <;> simp [hj]
theorem markL_set (f : Bool → Value) {n : Nat} {zs : List Int} {k j : Nat} (hz : zs[k]? = some (j : Int)) (hj : j < n) : (markL f n zs k).set j (f true) = markL f n zs (k + 1) := by
  apply List.ext_getElem?
  intro i
  by_cases hi : i < n
  · rw [markL_at f zs (k + 1) hi]
    by_cases hij : i = j
    · subst hij
      rw [List.getElem?_set_self (by rw [markL_length]; exact hi), take_more hz]
      simp
    · rw [List.getElem?_set_ne (by omega), markL_at f zs k hi, take_more hz]
      congr 1
      congr 1
      simp
      intro e
      exact absurd (Int.ofNat_inj.1 e) hij
  · rw [List.getElem?_eq_none (by simp [markL]; omega), List.getElem?_eq_none (by simp [markL]; omega)]

def clAt (l : List Cl) (z : Int) : Cl := l.getD z.toNat ⟨0, 0, 0, 0, 0, 0, 0⟩
theorem clAt_of {l : List Cl} {j : Nat} {x : Cl} (h : l[j]? = some x) : clAt l j = x := by simp [clAt, List.getD, h]
def idxB (l : List Cl) (zs : List Int) (i : Nat) : Bool := decide (0 ≤ zs.getD i 0 ∧ zs.getD i 0 < l.length) && !(zs.take i).contains (zs.getD i 0)
def preB (l : List Cl) (zs : List Int) (k : Nat) : Bool := (List.range k).all (idxB l zs)
def seenB (l : List Cl) (zs : List Int) (k : Nat) : Bool := (List.range k).all (fun (n : Nat) => decide ((clAt l n).code = 0) || zs.contains (n : Int))
def tmB (l : List Cl) (zs : List Int) (i : Nat) : Bool := (zs.take i).all (fun y => !aheadB (clAt l (zs.getD i 0)) (clAt l y))
def timeB (l : List Cl) (zs : List Int) (k : Nat) : Bool := (List.range k).all (tmB l zs)
def stepD (most : Nat) (l : List Cl) (o : Option (List Int)) (z : Int) : Option (List Int) := o.bind fun st => if alwB most st (clAt l z) then some (alwZ most st (clAt l z)) else none
def stepR (most : Nat) (l : List Cl) (o : Option (List Int)) (z : Int) : Option (List Int) := o.bind fun st => if (doR st (clAt l z) most).2 then some (doR st (clAt l z) most).1 else none
def runD (most : Nat) (l : List Cl) (zs : List Int) : Option (List Int) := zs.foldl (stepD most l) (some [])
def runR (most : Nat) (l : List Cl) (zs : List Int) : Option (List Int) := zs.foldl (stepR most l) (some [])
/-- Is it an order? -/
def legalB (l : List Cl) (most : Int) (zs : List Int) : Bool := decide (badE l most = 0) && (preB l zs zs.length && seenB l zs l.length) && timeB l zs zs.length && (runD most.toNat l zs).isSome
theorem range_more {p : Nat → Bool} {k : Nat} : (List.range (k + 1)).all p = ((List.range k).all p && p k) := by rw [List.range_succ, List.all_append]; simp
theorem range_not {p : Nat → Bool} {k n : Nat} (hk : k < n) (h : p k = false) : (List.range n).all p = false := by
  cases e : (List.range n).all p with
  | false => rfl
  | true => rw [List.all_eq_true.1 e k (List.mem_range.2 hk)] at h; cases h
theorem range_at {p : Nat → Bool} {k n : Nat} (hk : k < n) (h : (List.range n).all p = true) : p k = true := List.all_eq_true.1 h k (List.mem_range.2 hk)
theorem seenB_more {l : List Cl} {zs : List Int} {q : Nat} {x : Cl} (hx : l[q]? = some x) (h : seenB l zs q = true) (ho : x.code = 0 ∨ zs.contains (q : Int) = true) : seenB l zs (q + 1) = true := by
  unfold seenB at *
  rw [range_more, h]
  show (true && (decide ((clAt l q).code = 0) || zs.contains (q : Int))) = true
  rw [clAt_of hx]
  rcases ho with ho | ho
  · rw [decide_eq_true ho]; rfl
  · rw [ho]; simp
theorem seenB_not {l : List Cl} {zs : List Int} {q : Nat} {x : Cl} (hx : l[q]? = some x) (h1 : ¬ x.code = 0) (h2 : zs.contains (q : Int) = false) : seenB l zs l.length = false := by
  refine range_not (k := q) (List.getElem?_eq_some_iff.1 hx).1 ?_
  show (decide ((clAt l q).code = 0) || zs.contains (q : Int)) = false
  rw [clAt_of hx, decide_eq_false h1, h2]
  rfl
theorem getD_of {zs : List Int} {k : Nat} {z : Int} (h : zs[k]? = some z) : zs.getD k 0 = z := by simp [List.getD, h]
theorem runD_more {most : Nat} {l : List Cl} {zs : List Int} {k : Nat} {z : Int} (h : zs[k]? = some z) : runD most l (zs.take (k + 1)) = stepD most l (runD most l (zs.take k)) z := by
  rw [take_more h]; simp [runD]
theorem runR_more {most : Nat} {l : List Cl} {zs : List Int} {k : Nat} {z : Int} (h : zs[k]? = some z) : runR most l (zs.take (k + 1)) = stepR most l (runR most l (zs.take k)) z := by
  rw [take_more h]; simp [runR]
theorem foldD_none (most : Nat) (l : List Cl) (zs : List Int) : zs.foldl (stepD most l) none = none := by
  induction zs with
  | nil => rfl
  | cons z r ih => exact ih
theorem runD_none {most : Nat} {l : List Cl} {zs : List Int} {k : Nat} (h : runD most l (zs.take k) = none) : runD most l zs = none := by
  have : zs = zs.take k ++ zs.drop k := (List.take_append_drop k zs).symm
  unfold runD at *
  rw [this, List.foldl_append, h]
  exact foldD_none _ _ _
/-- In range, of a history: the two decks agree. -/
theorem run_same {most : Nat} {l : List Cl} (hh : histB l = true) {zs : List Int} : ∀ {k : Nat}, preB l zs k = true → k ≤ zs.length → runR most l (zs.take k) = runD most l (zs.take k) ∧ ∀ st, runD most l (zs.take k) = some st → st.length ≤ most ∧ st.length ≤ k := by
  intro k
  induction k with
  | zero => intro _ _; exact ⟨rfl, fun st e => by simp [runD] at e; subst e; exact ⟨Nat.zero_le _, Nat.zero_le _⟩⟩
  | succ k ih =>
    intro hp hk
    unfold preB at hp
    rw [range_more] at hp
    simp only [Bool.and_eq_true] at hp
    obtain ⟨h1, h2⟩ := ih hp.1 (by omega)
    obtain ⟨z, hz⟩ : ∃ z, zs[k]? = some z := ⟨zs[k]'(by omega), by simp⟩
    have hi := hp.2
    unfold idxB at hi
    rw [getD_of hz] at hi
    simp only [Bool.and_eq_true, decide_eq_true_eq] at hi
    obtain ⟨j, rfl⟩ : ∃ j : Nat, z = j := ⟨z.toNat, by omega⟩
    obtain ⟨x, hx⟩ : ∃ x, l[j]? = some x := ⟨l[j]'(by omega), by simp⟩
    rw [runR_more hz, runD_more hz, h1]
    cases hr : runD most l (zs.take k) with
    | none => exact ⟨rfl, fun st e => by simp [stepD] at e⟩
    | some st =>
      have hl := h2 st hr
      have ha := alw_do (most := most) (zs := st) (hist_fits hh hx) hl.1
      simp only [stepD, stepR, Option.bind_some, clAt_of hx]
      rw [← ha.1]
      cases hb : alwB most st x with
      | false => simp
      | true =>
        rw [ha.2 hb]
        refine ⟨rfl, fun st' e => ?_⟩
        simp at e
        subst e
        rw [← ha.2 hb]
        refine ⟨alw_length hl.1, ?_⟩
        have : (alwZ most st x).length ≤ st.length + 1 := by
          unfold alwZ
          split
          · omega
          · exact ansD_length _ _ _ _
        omega
end Go.Proofs.Ytheginjjncnheaa
