import Derived.Test.YtokfbagacehbgaaDoorSrEval
/-! A run that keeps its nodes comes to what one that does not comes to. -/
namespace Go.Proofs.YtokfbagacehbgaaDoor
set_option linter.unusedVariables false
set_option maxRecDepth 20000
open Go.RowKit Go.PlainOps

def Rn.bare (s : Rn) : Rn := { s with nodes := [] }
def Res.bare : Res → Res
  | .gave e => .gave e
  | .done v sp s => .done v sp s.bare
theorem loop_bare (fs : List Fn) : ∀ (g : Nat) (s : Rn) (t : Tk) (at_ : Nat), loopV fs false g s.bare t at_ = (loopV fs true g s t at_).bare
  | 0, s, t, at_ => rfl
  | g + 1, s, t, at_ => by
    have hp : payS s.bare = (payS s).bare := rfl
    have he : ∀ (s : Rn) (c : Tk), enterS false s.bare c = (enterS true s c).bare := fun s c => rfl
    have ht : ∀ (s : Rn) (c : Tk), enterT s.bare c = enterT s c := fun s c => rfl
    have hl : ∀ (s : Rn) (c : Tk), leaveS false s.bare c = (leaveS true s c).bare := fun s c => rfl
    conv => lhs; unfold loopV
    conv => rhs; unfold loopV
    have hf : s.bare.fuel = s.fuel := rfl
    rw [hf, hp]
    by_cases h0 : s.fuel = 0
    · rw [if_pos h0, if_pos h0]; rfl
    · rw [if_neg h0, if_neg h0]
      cases hc : (codeOf fs t.node.func)[at_]? with
      | none => rfl
      | some i =>
        simp only
        by_cases k3 : i.kind = 3
        · rw [if_pos k3, if_pos k3]; exact loop_bare fs g _ _ _
        · rw [if_neg k3, if_neg k3]
          by_cases k4 : i.kind = 4
          · rw [if_pos k4, if_pos k4]; exact loop_bare fs g _ _ _
          · rw [if_neg k4, if_neg k4]
            by_cases k5 : i.kind = 5
            · rw [if_pos k5, if_pos k5]
              by_cases hd : 4096 < (childV fs (payT t) i).depth
              · rw [if_pos hd, if_pos hd]; rfl
              · rw [if_neg hd, if_neg hd, he, ht, loop_bare fs g]
                cases loopV fs true g (enterS true (payS s) (childV fs (payT t) i)) (enterT (payS s) (childV fs (payT t) i)) 0 with
                | gave e => rfl
                | done v sp s2 => exact loop_bare fs g _ _ _
            · rw [if_neg k5, if_neg k5]
              by_cases k6 : i.kind = 6
              · rw [if_pos k6, if_pos k6]; exact loop_bare fs g _ _ _
              · rw [if_neg k6, if_neg k6]
                by_cases k9 : i.kind = 9
                · rw [if_pos k9, if_pos k9, hl]; rfl
                · rw [if_neg k9, if_neg k9]; exact loop_bare fs g _ _ _
theorem run_bare' (fs : List Fn) (zs : List Int) (F : Nat) : runV fs false zs F = (runV fs true zs F).bare := by
  unfold runV playV
  by_cases hd : 4096 < (rootT zs).depth
  · rw [if_pos hd, if_pos hd]; rfl
  · rw [if_neg hd, if_neg hd]
    exact loop_bare fs (F + 1) (enterS true (startS F) (rootT zs)) (enterT (startS F) (rootT zs)) 0
/-- Tree: the nodes. -/
def treeV (fs : List Fn) (zs : List Int) (fuel : Int) : List Nd := match runV fs true zs fuel.toNat with
  | .gave _ => []
  | .done _ _ s => s.nodes
/-- A run is given up for want of fuel, or too deep. -/
theorem loop_gave {fs : List Fn} (hA : AllV fs) (L : Bool) : ∀ (g : Nat) (s : Rn) (t : Tk) (at_ : Nat), s.In L → t.In fs s.fuel → at_ < (codeOf fs t.node.func).length → ∀ e, loopV fs L g s t at_ = .gave e → e = 62 ∨ e = 63
  | 0, s, t, at_, hs, ht, hat, e, h => by
    simp [loopV] at h
    exact .inl h.symm
  | g + 1, s, t, at_, hs, ht, hat, e, h => by
    by_cases h0 : s.fuel = 0
    · rw [loop_out h0] at h
      injection h with h
      exact .inl h.symm
    · obtain ⟨m, hm⟩ : ∃ m, s.fuel = m + 1 := ⟨s.fuel - 1, by omega⟩
      have hpf : (payS s).fuel = m := by simp [payS, hm]
      obtain ⟨f, hf, _, hcf, hV, hok⟩ := hA.fn ht.func
      have hat' := hat
      rw [hcf] at hat'
      obtain ⟨i, hi⟩ : ∃ i, f.code[at_]? = some i := ⟨f.code[at_]'hat', by simp⟩
      have hic : (codeOf fs t.node.func)[at_]? = some i := by rw [hcf]; exact hi
      have so := step_ok hV hi
      have hik := (hok.code i (List.mem_of_getElem? hi)).k
      have ht' := ht
      rw [hm] at ht'
      have hnl : i.kind ≠ 3 → i.kind ≠ 9 → at_ + 1 < (codeOf fs t.node.func).length := fun h3 h9 => by rw [hcf]; exact so.next h3 h9
      have hcases : i.kind = 3 ∨ i.kind = 4 ∨ i.kind = 5 ∨ i.kind = 6 ∨ i.kind = 9 ∨ (i.kind = 0 ∨ i.kind = 1 ∨ i.kind = 2 ∨ i.kind = 7 ∨ i.kind = 8) := by have := so.kind; omega
      rcases hcases with hk | hk | hk | hk | hk | hk
      · rw [loop_jump h0 hic hk] at h
        exact loop_gave hA L g _ _ _ hs.pay (by rw [hpf]; exact ht'.pay) (by show _ < (codeOf fs t.node.func).length; rw [hcf]; have := so.jump hk; omega) e h
      · rw [loop_branch h0 hic hk] at h
        exact loop_gave hA L g _ _ _ hs.pay (by rw [hpf]; exact ht'.pay) (by show _ < (codeOf fs t.node.func).length; have := hnl (by omega) (by omega); rw [hcf] at this ⊢; have := so.branch hk; split <;> omega) e h
      · rw [loop_spawn h0 hic hk] at h
        have hBg := child_begins hs ht h0 so hk
        cases hp : playV fs L g (payS s) (childV fs (payT t) i) with
        | gave e' =>
          rw [hp] at h
          injection h with h
          subst h
          unfold playV at hp
          by_cases hd : 4096 < (childV fs (payT t) i).depth
          · rw [if_pos hd] at hp
            injection hp with hp
            exact .inr hp.symm
          · rw [if_neg hd] at hp
            have hti := hBg.tin hd
            obtain ⟨f2, _, _, hc2, hV2, _⟩ := hA.fn hti.func
            exact loop_gave hA L g _ _ 0 (hBg.sin hd) hti (by rw [hc2]; have := (valid_bounds hV2).2.2.2; omega) _ hp
        | done v sp s2 =>
          rw [hp] at h
          obtain ⟨d1, d2, d3, d4, d5, d6⟩ := child_done hA hBg rfl hp
          exact loop_gave hA L g _ _ _ d5 (ht'.got d1 d2 (by omega)) (by show _ < (codeOf fs t.node.func).length; exact hnl (by omega) (by omega)) e h
      · rw [loop_sync h0 hic hk] at h
        exact loop_gave hA L g _ _ _ hs.pay (by rw [hpf]; exact ht'.wait) (by show _ < (codeOf fs t.node.func).length; exact hnl (by omega) (by omega)) e h
      · rw [loop_ret h0 hic hk] at h
        cases h
      · rw [loop_comp h0 hic hk] at h
        have en : (computeT (payT t) i).node = (payT t).node := by
          unfold computeT setR
          repeat' split
          all_goals rfl
        exact loop_gave hA L g _ _ _ hs.pay (by rw [hpf]; exact ht'.pay.compute i hik) (by rw [en]; show _ < (codeOf fs t.node.func).length; exact hnl (by omega) (by omega)) e h
theorem gave_ne {fs : List Fn} (hA : AllV fs) {L : Bool} {g : Nat} {s : Rn} {t : Tk} {e : Int} (hB : Begins fs L s t) (h : playV fs L g s t = .gave e) : e ≠ 0 := by
  unfold playV at h
  by_cases hd : 4096 < t.depth
  · rw [if_pos hd] at h; injection h with h; omega
  · rw [if_neg hd] at h
    have hti := hB.tin hd
    obtain ⟨f, _, _, hc, hV, _⟩ := hA.fn hti.func
    have := loop_gave hA L g _ _ 0 (hB.sin hd) hti (by rw [hc]; have := (valid_bounds hV).2.2.2; omega) e h
    omega
end Go.Proofs.YtokfbagacehbgaaDoor
