import Derived.Test.YtolhojagbiaamaaRcLink
import Derived.Test.YtolhojagbiaamaaRcAdd0
import Derived.Test.YtolhojagbiaamaaRcAdd1
import Derived.Test.YtolhojagbiaamaaRcAdd2
/-! The whole row. -/
namespace Go.Proofs.Ytolhojagbiaamaa
set_option linter.unusedVariables false
set_option maxRecDepth 20000
set_option linter.unusedSimpArgs false
open Go.RowKit Go.HeapKit

/-- The row behind the first k deeds. -/
def RowK (w : World) (base R n : Nat) (ds : List Dd) (k : Nat) : Prop := ∃ N gN gA cap, RowM w base R n N (actL n (stN ds k)) gN gA cap ∧ Lnk N (n :: Lof (stN ds k))
theorem RowK.more {w w' : World} {base R n k : Nat} {ds : List Dd} (h : RowK w base R n ds k) (hk : Keeps None w w') : RowK w' base R n ds k := by
  obtain ⟨N, gN, gA, cap, h1, h2⟩ := h
  exact ⟨N, gN, gA, cap, h1.more hk, h2⟩
theorem endE_loc (p : Dd) (k : Nat) (v : Int) : endE ⟨v, p.loc⟩ k = endE p k := rfl
theorem add_any (w : World) (base R n k : Nat) (ds : List Dd) (x : Dd) (hx : ds[k]? = some x) (hf : Fine ds) (hn : n = ds.length) (hn2 : n ≤ 4096) (h : RowK w base R n ds k) (hb : base ≤ w.heap.size) :
    Calls Try.prog 44 #[.pointer (some ⟨R, 0, none⟩), .int .i64 k, .int .i64 x.k] w fun e w' => e = .returned (.tuple #[]) ∧ RowK w' base R n ds (k + 1) ∧ Keeps (fun i => base ≤ i) w w' := by
  have hk : k < n := by rw [hn]; exact (List.getElem?_eq_some_iff.1 hx).1
  obtain ⟨d, hd1, hd2, hI⟩ := hf.at k (by omega)
  obtain ⟨N, gN, gA, cap, hR, hL⟩ := h
  rw [chkL_step hx] at hd2
  have hbad : badK x.k d = false := by
    cases hb : badK x.k d with
    | false => rfl
    | true => rw [if_pos hb] at hd2; cases hd2
  have hle := st_le ds k
  have hs' : stN ds (k + 1) = stepT k x.k (stN ds k) := by show stepT k ((ds.getD k ⟨3, 0⟩).k) (stN ds k) = _; rw [getD_of hx]
  have hnd : (n :: Lof (stN ds k)).Nodup := List.nodup_cons.2 ⟨fun h => by have := (hI.all n).1 h; omega, hI.nd⟩
  have hkn : k ∉ n :: Lof (stN ds k) := fun h => by
    rcases List.mem_cons.1 h with h | h
    · omega
    · have := (hI.all k).1 h; omega
  cases hs : stN ds k with
  | nil => rw [hs] at hd1; simp at hd1
  | cons t r =>
    rw [hs] at hR hL hs' hd1 hle hnd hkn
    have hall : ∀ a, a ∈ Cof (t :: r) ++ Oof (t :: r) → a < k := fun a ha => (hI.all a).1 (by rw [hs]; exact ha)
    have hlast : lastN n (t :: r) ≤ n := by
      unfold lastN
      cases hl : (Cof (t :: r)).getLast? with
      | none => exact Nat.le_refl _
      | some b => have := hall b (List.mem_append.2 (.inl (List.mem_of_getLast? hl))); simp; omega
    have hlO : ∀ b, t.O.getLast? = some b → b ≤ n := fun b hb => by
      have := hall b (List.mem_append.2 (.inr (List.mem_append.2 (.inl (List.mem_of_getLast? hb))))); omega
    have hAl : (actL n r).length ≤ 4098 := by rw [act_len]; simp at hle; omega
    have fin : ∀ N' acts, (Lnk N' (n :: Lof (stepT k x.k (t :: r))) ∧ acts = actL n (stepT k x.k (t :: r))) → ∀ (e : Ending) (w' : World), (e = .returned (.tuple #[]) ∧ (∃ gA' cap', RowM w' base R n N' acts gN gA' cap') ∧ Keeps (fun i => base ≤ i) w w') → (e = .returned (.tuple #[]) ∧ RowK w' base R n ds (k + 1) ∧ Keeps (fun i => base ≤ i) w w') := by
      rintro N' acts ⟨h1, rfl⟩ e w' ⟨h2, ⟨gA', cap', h3⟩, h4⟩
      exact ⟨h2, ⟨N', gN, gA', cap', by rw [hs']; exact h3, by rw [hs']; exact h1⟩, h4⟩
    by_cases k0 : x.k = 0
    · rw [k0] at fin ⊢
      refine (add_0 w base R n gN gA cap k (lastN n (t :: r)) t.O.getLast? N (actL n r) hR (by omega) hk hn2 hlast hb).mono (fin _ _ ⟨?_, ?_⟩)
      · rw [st0]
        have := lnk_behind (X := Cof (t :: r)) (Y := Oof (t :: r)) hnd hkn hL
        have e : Lof (⟨[], [], []⟩ :: ⟨t.P ++ [k], t.O, t.Out⟩ :: r) = Cof (t :: r) ++ k :: Oof (t :: r) := by simp [Lof, Cof, Oof]
        rw [e]; exact this
      · rw [st0]
        simp [actL, lastN, Cof, endO]
    · by_cases k1 : x.k = 1
      · rw [k1] at fin hbad ⊢
        have hd0 : d ≠ 0 := fun e => by subst e; revert hbad; decide
        obtain ⟨u, r', rfl⟩ : ∃ u r', r = u :: r' := by
          cases r with
          | nil => simp at hd1; omega
          | cons u r' => exact ⟨u, r', rfl⟩
        have hX := last_two (Cof (t :: u :: r')) t.O n
        have hlk := lnk_behind (X := Cof (t :: u :: r') ++ t.O) (Y := Oof (u :: r')) (N := N) (n := n) (k := k) (by simpa [Lof, Oof] using hnd) (by simpa [Lof, Oof] using hkn) (by simpa [Lof, Oof] using hL)
        have e : Lof (⟨u.P, (t.P ++ t.O ++ [k]) ++ u.O, u.Out ++ [k]⟩ :: r') = (Cof (t :: u :: r') ++ t.O) ++ k :: Oof (u :: r') := by simp [Lof, Cof, Oof]
        have ea : actL n r' ++ [⟨lastN n (u :: r'), endE ⟨lastN n (u :: r'), endO u.O.getLast?⟩ k⟩] = actL n (⟨u.P, (t.P ++ t.O ++ [k]) ++ u.O, u.Out ++ [k]⟩ :: r') := by
          have := end_ret t u k
          rw [show endE ⟨((lastN n (u :: r') : Nat) : Int), endO u.O.getLast?⟩ k = endE ⟨0, endO u.O.getLast?⟩ k from rfl, this]
          rfl
        have hA2 : (actL n r' ++ [(⟨lastN n (u :: r'), endO u.O.getLast?⟩ : Dd)]).length ≤ 4999 := by
          have : (actL n (u :: r')).length ≤ 4098 := hAl
          exact Nat.le_trans this (by omega)
        cases ho : t.O.getLast? with
        | none =>
          have hR' : RowM w base R n N ((actL n r' ++ [⟨lastN n (u :: r'), endO u.O.getLast?⟩]) ++ [⟨lastN n (t :: u :: r'), endO none⟩]) gN gA cap := by rw [← ho]; exact hR
          refine (add_1n w base R n gN gA cap k (lastN n (t :: u :: r')) N (actL n r') ⟨lastN n (u :: r'), endO u.O.getLast?⟩ hR' hA2 hk hn2 hlast hb).mono (fin _ _ ⟨?_, ?_⟩)
          · rw [st1, e]
            rw [ho] at hX
            have e2 : (Cof (t :: u :: r') ++ t.O).getLast?.getD n = lastN n (t :: u :: r') := hX.symm
            rw [e2] at hlk
            exact hlk
          · rw [st1]; exact ea
        | some q =>
          have hR' : RowM w base R n N ((actL n r' ++ [⟨lastN n (u :: r'), endO u.O.getLast?⟩]) ++ [⟨lastN n (t :: u :: r'), endO (some q)⟩]) gN gA cap := by rw [← ho]; exact hR
          refine (add_1s w base R n gN gA cap k (lastN n (t :: u :: r')) q N (actL n r') ⟨lastN n (u :: r'), endO u.O.getLast?⟩ hR' hA2 hk hn2 hlast (hlO q ho) hb).mono (fin _ _ ⟨?_, ?_⟩)
          · rw [st1, e]
            rw [ho] at hX
            have e2 : (Cof (t :: u :: r') ++ t.O).getLast?.getD n = q := hX.symm
            rw [e2] at hlk
            exact hlk
          · rw [st1]; exact ea
      · by_cases k2 : x.k = 2
        · rw [k2] at fin ⊢
          have hX := last_two (Cof (t :: r)) t.O n
          have hlk := lnk_behind (X := Cof (t :: r) ++ t.O) (Y := Oof r) (N := N) (n := n) (k := k) (by simpa [Lof, Oof] using hnd) (by simpa [Lof, Oof] using hkn) (by simpa [Lof, Oof] using hL)
          have e : Lof (⟨t.P ++ t.O ++ [k], [], []⟩ :: r) = (Cof (t :: r) ++ t.O) ++ k :: Oof r := by simp [Lof, Cof, Oof]
          have ea : actL n r ++ [⟨(k : Int), -1⟩] = actL n (⟨t.P ++ t.O ++ [k], [], []⟩ :: r) := by simp [actL, lastN, Cof, endO]
          cases ho : t.O.getLast? with
          | none =>
            have hR' : RowM w base R n N (actL n r ++ [⟨lastN n (t :: r), endO none⟩]) gN gA cap := by rw [← ho]; exact hR
            refine (add_2n w base R n gN gA cap k (lastN n (t :: r)) N (actL n r) hR' (by omega) hk hn2 hlast hb).mono (fin _ _ ⟨?_, ?_⟩)
            · rw [st2, e]
              rw [ho] at hX
              have e2 : (Cof (t :: r) ++ t.O).getLast?.getD n = lastN n (t :: r) := hX.symm
              rw [e2] at hlk
              exact hlk
            · rw [st2]; exact ea
          | some q =>
            have hR' : RowM w base R n N (actL n r ++ [⟨lastN n (t :: r), endO (some q)⟩]) gN gA cap := by rw [← ho]; exact hR
            refine (add_2s w base R n gN gA cap k (lastN n (t :: r)) q N (actL n r) hR' (by omega) hk hn2 hlast (hlO q ho) hb).mono (fin _ _ ⟨?_, ?_⟩)
            · rw [st2, e]
              rw [ho] at hX
              have e2 : (Cof (t :: r) ++ t.O).getLast?.getD n = q := hX.symm
              rw [e2] at hlk
              exact hlk
            · rw [st2]; exact ea
        · refine (add_3 w base R n gN gA cap k (lastN n (t :: r)) t.O.getLast? x.k N (actL n r) hR (by omega) hk hn2 hlast k0 k1 k2 hb).mono (fin _ _ ⟨?_, ?_⟩)
          · rw [st3 _ _ _ _ k0 k1 k2]
            have := lnk_behind (X := Cof (t :: r)) (Y := Oof (t :: r)) hnd hkn hL
            have e : Lof (⟨t.P ++ [k], t.O, t.Out⟩ :: r) = Cof (t :: r) ++ k :: Oof (t :: r) := by simp [Lof, Cof, Oof]
            rw [e]; exact this
          · rw [st3 _ _ _ _ k0 k1 k2]
            simp [actL, lastN, Cof, endO]
end Go.Proofs.Ytolhojagbiaamaa
