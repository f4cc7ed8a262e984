import Derived.Test.YtdiabpoafennlaaHyMem
import Derived.Test.YtdiabpoafennlaaHyPlain
/-! A reducer's player in memory. -/
namespace Go.Proofs.Ytdiabpoafennlaa
set_option linter.unusedVariables false
set_option maxRecDepth 20000
set_option linter.unusedSimpArgs false
open Go.RowKit Go.HeapKit

/-! Blocks by their types. -/
/-- What S names is of one type, or new. -/
def OnlyT (S : Nat → Prop) (w : World) (t : TypeId) : Prop := ∀ i, S i → i < w.heap.size → ∃ cs fz, w.heap[i]? = some (.cells cs t fz)
theorem onlyT_none (w : World) (t : TypeId) : OnlyT None w t := fun _ f => f.elim
theorem onlyT_one {w : World} {g : Nat} {cs : Array Value} {t : TypeId} {fz : Nat × Nat} (h : w.heap[g]? = some (.cells cs t fz)) : OnlyT (· = g) w t := fun i e _ => ⟨cs, fz, e ▸ h⟩
theorem onlyT_own {w : World} {base : Nat} {e : TypeId} {size : Nat} {v : Value} {n : Nat} {xs : List Value} (h : w.ownsRow base e size v n xs) : OnlyT (fun k => v.ownBlock = some k) w e := fun i hi _ => by
  obtain ⟨cur, hc⟩ := own_block h hi
  exact ⟨cur, _, hc⟩
theorem row_other {S : Nat → Prop} {w w' : World} {base : Nat} {t e : TypeId} {size : Nat} {v : Value} {n : Nat} {xs : List Value} (h : w.ownsRow base e size v n xs) (hk : Keeps S w w') (hS : OnlyT S w t) (hne : t ≠ e) : w'.ownsRow base e size v n xs :=
  row_kept h hk (fun g hg hs => by
    obtain ⟨cs, fz, h1⟩ := hS g hs (own_lt h hg)
    obtain ⟨cur, hc⟩ := own_block h hg
    rw [h1] at hc
    injection hc with hc
    injection hc with _ hc
    exact hne hc)
theorem blk_other {S : Nat → Prop} {w w' : World} {p : Nat} {c : Array Value} {t e : TypeId} {fz : Nat × Nat} (h : w.heap[p]? = some (.cells c e fz)) (hk : Keeps S w w') (hS : OnlyT S w t) (hne : t ≠ e) : w'.heap[p]? = some (.cells c e fz) :=
  blk_kept h hk (fun hs => by
    obtain ⟨cs, fz2, h1⟩ := hS p hs (blk_lt h)
    rw [h] at h1
    injection h1 with h1
    injection h1 with _ h1
    exact hne h1.symm)
theorem own_cellS {w : World} {base : Nat} {e : TypeId} {size : Nat} {a : Option Addr} {n c : Nat} {vs : List Value} {k : Nat} {x : Value} (h : w.ownsRow base e size (.slice a n c) n vs) (hx : vs[k]? = some x) :
    ∃ g, a = some ⟨g, 0, none⟩ ∧ base ≤ g ∧ g < w.heap.size ∧ n ≤ c ∧ w.cell? ⟨g, k, none⟩ = some x ∧ ∀ i, w.frozen? ⟨g, i, none⟩ = false := by
  have hk := (List.getElem?_eq_some_iff.1 hx).1
  have hl := h.1
  rcases h.2 with ⟨_, h1⟩ | ⟨g, cap, cur, hv, hbg, hg, hnc, hcm, hcs, htake⟩
  · rw [h1, Nat.zero_mul] at hl
    omega
  · injection hv with e1 e2 e3
    subst e1 e3
    have hcell : ∀ j u, vs[j]? = some u → w.cell? ⟨g, j, none⟩ = some u := by
      intro j u this
      rw [blk_cell hg]
      rw [← htake, List.getElem?_take] at this
      split at this
      · simpa using this
      · cases this
    exact ⟨g, rfl, hbg, (Array.getElem?_eq_some_iff.1 hg).1, hnc, hcell _ _ hx, fun i => blk_free hg i⟩
theorem range_get {n k : Nat} (F : Nat → Value) (h : k < n) : ((List.range n).map F)[k]? = some (F k) := by simp [h]
def upd {α β : Type} [DecidableEq α] (f : α → β) (k : α) (v : β) (j : α) : β := if j = k then v else f j
theorem upd_eq {α β : Type} [DecidableEq α] (f : α → β) (k : α) (v : β) : upd f k v k = v := if_pos rfl
theorem upd_ne {α β : Type} [DecidableEq α] {f : α → β} {k j : α} {v : β} (h : j ≠ k) : upd f k v j = f j := if_neg h
theorem range_setF {n k : Nat} (F : Nat → Value) (v : Value) : (((List.range n).map F).set k v) = (List.range n).map (upd F k v) := by
  apply List.ext_getElem?
  intro i
  rw [List.getElem?_set]
  by_cases h : i < n
  · rw [range_get _ h, range_get _ h]
    by_cases hk : k = i
    · subst hk; rw [upd_eq]; simp [h]
    · rw [upd_ne (fun e => hk e.symm), if_neg hk]
  · simp [h]
    omega
theorem range_cong {n : Nat} {F G : Nat → Value} (h : ∀ i, i < n → F i = G i) : (List.range n).map F = (List.range n).map G := List.map_congr_left (fun i hi => h i (by simpa using hi))

/-! The player. -/
structure PS where
  vs : List (List Int)
  tk : List (Nat × List Nat)
  pk : List Int
  spn : Nat
  mg : List (Nat × Nat × Nat)
  lk : List (List Int)
structure PX where
  sa : Option Addr
  sc : Nat
  pa : Option Addr
  pc : Nat
  va : Option Addr
  vc : Nat
  ta : Option Addr
  tc : Nat
  ma : Option Addr
  mc : Nat
  la : Option Addr
  lc : Nat
abbrev Ky := Nat ⊕ Nat
def fnV (n : Nat) : Value := .func (.func n) #[] #[]
def PX.cells (X : PX) (st : List Bool) (s : PS) : Array Value := #[.func (.func 37) #[] #[], .func (.func 38) #[] #[], .func (.func 39) #[] #[], .func (.func 40) #[] #[],
  .slice X.sa st.length X.sc, .slice X.pa s.pk.length X.pc, .slice X.va s.vs.length X.vc, .slice X.ta s.tk.length X.tc, .int .i64 s.spn, .slice X.ma s.mg.length X.mc, .slice X.la s.lk.length X.lc]
/-- What a row of numbers holds: views, looks. -/
def Lf (vs lk : List (List Int)) : Ky → List Int
  | .inl i => vs.getD i []
  | .inr i => lk.getD i []
def nI (l : List Nat) : List Int := l.map (fun i : Nat => (i : Int))
def nv (l : List Nat) : List Value := iv (nI l)
theorem nv_len (l : List Nat) : (nv l).length = l.length := by simp [nv, iv, nI]
def rowOf (tk : List (Nat × List Nat)) (i : Nat) : List Nat := (tk.getD i (0, [])).2
/-- The cells of the tasks: spawn, row. -/
def tkF (tk : List (Nat × List Nat)) (H : Nat → Value) (k : Nat) : Value := if k % 2 = 0 then .int .i64 (tk.getD (k / 2) (0, [])).1 else H (k / 2)
def mgV (mg : List (Nat × Nat × Nat)) : List Value := mg.flatMap fun x => [.int .i64 x.1, .int .i64 x.2.1, .int .i64 x.2.2]
theorem mgV_len (mg : List (Nat × Nat × Nat)) : (mgV mg).length = mg.length * 3 := by
  induction mg with
  | nil => rfl
  | cons x l ih => simp only [mgV, List.flatMap_cons, List.length_append, List.length_cons, List.length_nil] at ih ⊢; omega
structure Vw (w : World) (base : Nat) (va : Option Addr) (vc : Nat) (la : Option Addr) (lc : Nat) (K : Ky → Value) (vs lk : List (List Int)) : Prop where
  rows : ∀ k, w.ownsRow base 2 1 (K k) (Lf vs lk k).length (iv (Lf vs lk k))
  apart : ∀ i j b, i ≠ j → (K i).ownBlock = some b → (K j).ownBlock ≠ some b
  views : w.ownsRow base 28 1 (.slice va vs.length vc) vs.length ((List.range vs.length).map fun i => K (.inl i))
  looks : w.ownsRow base 28 1 (.slice la lk.length lc) lk.length ((List.range lk.length).map fun i => K (.inr i))
  vl : ∀ b n c m d, (Value.slice va n c).ownBlock = some b → (Value.slice la m d).ownBlock ≠ some b
structure Tks (w : World) (base : Nat) (ta : Option Addr) (tc : Nat) (H R : Nat → Value) (tk : List (Nat × List Nat)) : Prop where
  tks : w.ownsRow base 84 2 (.slice ta tk.length tc) tk.length ((List.range (tk.length * 2)).map (tkF tk H))
  rows : ∀ i, i < tk.length → w.ownsRow base 3 1 (R i) (rowOf tk i).length (nv (rowOf tk i))
  apart : ∀ i j b, i < tk.length → j < tk.length → i ≠ j → (R i).ownBlock = some b → (R j).ownBlock ≠ some b
structure Args (w : World) (base : Nat) (sa pa : Option Addr) (pc : Nat) (st : List Bool) (pk : List Int) : Prop where
  seenS : SeenV w sa st.length (bv' st)
  seenP : SeenV w pa pk.length (iv pk)
  lowS : ∀ b, blockOf sa = some b → 0 < st.length → b < base
  lowP : ∀ b, blockOf pa = some b → 0 < pk.length → b < base
  capP : pk.length ≤ pc
structure PM (w : World) (base pb : Nat) (st : List Bool) (X : PX) (K : Ky → Value) (H R : Nat → Value) (s : PS) : Prop where
  blk : w.heap[pb]? = some (.cells (X.cells st s) 69 (0, 0))
  low : base ≤ pb
  vw : Vw w base X.va X.vc X.la X.lc K s.vs s.lk
  tk : Tks w base X.ta X.tc H R s.tk
  ar : Args w base X.sa X.pa X.pc st s.pk
  mg : w.ownsRow base 43 3 (.slice X.ma s.mg.length X.mc) s.mg.length (mgV s.mg)
section
variable {w w' : World} {base pb : Nat} {st : List Bool} {X : PX} {K : Ky → Value} {H R : Nat → Value} {s : PS} {S : Nat → Prop} {t : TypeId}
theorem Vw.other {va la : Option Addr} {vc lc : Nat} {vs lk : List (List Int)} (h : Vw w base va vc la lc K vs lk) (hk : Keeps S w w') (hS : OnlyT S w t) (h1 : t ≠ 2) (h2 : t ≠ 28) : Vw w' base va vc la lc K vs lk :=
  ⟨fun k => row_other (h.rows k) hk hS h1, h.apart, row_other h.views hk hS h2, row_other h.looks hk hS h2, h.vl⟩
theorem Tks.other {ta : Option Addr} {tc : Nat} {tk : List (Nat × List Nat)} (h : Tks w base ta tc H R tk) (hk : Keeps S w w') (hS : OnlyT S w t) (h1 : t ≠ 84) (h2 : t ≠ 3) : Tks w' base ta tc H R tk :=
  ⟨row_other h.tks hk hS h1, fun i hi => row_other (h.rows i hi) hk hS h2, h.apart⟩
theorem Args.other {sa pa : Option Addr} {pc : Nat} {pk : List Int} (h : Args w base sa pa pc st pk) (hk : Keeps S w w') (hS : ∀ i, S i → base ≤ i) : Args w' base sa pa pc st pk :=
  ⟨h.seenS.kept hk (fun h0 b hb hlt hs => by have := hS b hs; have := h.lowS b hb h0; omega), h.seenP.kept hk (fun h0 b hb hlt hs => by have := hS b hs; have := h.lowP b hb h0; omega), h.lowS, h.lowP, h.capP⟩
theorem PM.more (h : PM w base pb st X K H R s) (hk : Keeps None w w') : PM w' base pb st X K H R s :=
  ⟨blk_kept h.blk hk (fun f => f), h.low, h.vw.other (t := 0) hk (fun _ f => f.elim) (by decide) (by decide), h.tk.other (t := 0) hk (fun _ f => f.elim) (by decide) (by decide), h.ar.other hk (fun _ f => f.elim), row_kept h.mg hk (fun _ _ f => f)⟩
theorem PM.cell (h : PM w base pb st X K H R s) (i : Nat) : w.cell? ⟨pb, i, none⟩ = (X.cells st s)[i]? := blk_cell h.blk i
theorem PM.free (h : PM w base pb st X K H R s) (i : Nat) : w.frozen? ⟨pb, i, none⟩ = false := blk_free h.blk i
/-- One of the player's cells is stored: what stands besides. -/
theorem PM.put {c : Array Value} (hb : w.heap[pb]? = some (.cells c 69 (0, 0))) (hl : base ≤ pb) {i : Nat} {v : Value} (hc : c.setIfInBounds i v = X.cells st s) (h1 : Vw w base X.va X.vc X.la X.lc K s.vs s.lk) (h2 : Tks w base X.ta X.tc H R s.tk) (h3 : Args w base X.sa X.pa X.pc st s.pk)
    (h4 : w.ownsRow base 43 3 (.slice X.ma s.mg.length X.mc) s.mg.length (mgV s.mg)) : PM (w.setCell ⟨pb, i, none⟩ v) base pb st X K H R s := by
  have hk : Keeps (· = pb) w (w.setCell ⟨pb, i, none⟩ v) := keeps_one (Keeps.refl _ _) _
  have ho : OnlyT (· = pb) w 69 := onlyT_one hb
  refine ⟨?_, hl, h1.other hk ho (by decide) (by decide), h2.other hk ho (by decide) (by decide), h3.other hk (fun i e => by omega), row_other h4 hk ho (by decide)⟩
  rw [← hc]
  exact blk_set hb v
theorem own_a {base : Nat} {e : TypeId} {size : Nat} {a : Option Addr} {n c : Nat} {xs : List Value} {b : Nat} (h : w.ownsRow base e size (.slice a n c) n xs) {m d : Nat} (hb : (Value.slice a m d).ownBlock = some b) : a = some ⟨b, 0, none⟩ := by
  rcases h.2 with ⟨e1, _⟩ | ⟨g, cap, cur, e1, _⟩
  · injection e1 with e1
    subst e1
    simp [Value.ownBlock] at hb
  · injection e1 with e1
    subst e1
    simp [Value.ownBlock] at hb
    rw [hb]
theorem Try.infoRow : (Try.prog.info? 28).map (fun i => (i.zero, i.size, i.bytes)) = some (some (.slice none 0 0), 1, 24) := by kernel_rfl
/-- 'append(rows, row)'. -/
theorem rows_more (base : Nat) (sl V : Value) (n : Nat) (xs : List Value) (ty g0 : Nat) (w : World) (h : w.ownsRow base 28 1 sl n xs) (hb : base ≤ w.heap.size) (hlen : (n + 1) * 24 ≤ 140737488355328) (hV : V.oneCell' = true)
    (hg0 : w.heap[g0]? = some (.cells #[V] 28 (0, 0))) :
    ∃ g cap w', (Builtin.append_ #[37, 37] ty #[sl, .slice (some ⟨g0, 0, none⟩) 1 1]).run Try.prog w = .ok (.slice (some ⟨g, 0, none⟩) (n + 1) cap) w' ∧
      w'.ownsRow base 28 1 (.slice (some ⟨g, 0, none⟩) (n + 1) cap) (n + 1) (xs ++ [V]) ∧ Keeps (fun k => sl.ownBlock = some k) w w' ∧ (sl.ownBlock = some g ∨ w.heap.size ≤ g) := by
  obtain ⟨i0, hi, hz0, hz1, hz2⟩ := info_parts Try.infoRow
  obtain ⟨v', w1, hr, ho, hgr, hm, -⟩ := run_append_moved (P := Try.prog) w base 37 ty 28 i0 _ 1 24 Try.underlying37 hi hz0 hz1 hz2 rfl (by decide) sl n _ h
    ⟨g0, 0, none⟩ 1 1 [V] rfl (by
      intro j u hu
      rw [addr_at, blk_cell hg0]
      simpa using hu) (by
      intro u hu
      simp at hu
      subst hu; exact hV) (by unfold maxLen; omega) hlen hb
  obtain ⟨g, cap, rfl⟩ : ∃ g cap, v' = .slice (some ⟨g, 0, none⟩) (n + 1) cap := by
    rcases ho.2 with ⟨_, h0⟩ | ⟨b, cap, cur, rfl, _⟩
    · omega
    · exact ⟨b, cap, rfl⟩
  refine ⟨g, cap, w1, hr, ho, (Keeps.refl _ w).andGrown hgr (fun k e => .inl e), ?_⟩
  rcases hm with hm | ⟨g', e, hg⟩
  · exact .inl (hm.symm.trans rfl)
  · simp [Value.ownBlock] at e; exact .inr (by omega)
end
end Go.Proofs.Ytdiabpoafennlaa
