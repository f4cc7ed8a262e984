import Derived.Test.YtokfbagacehbgaaDoorSrSizes
/-! Fuel changes nothing but whether there is an answer, plainly. -/
namespace Go.Proofs.YtokfbagacehbgaaDoor
set_option linter.unusedVariables false
set_option maxRecDepth 20000
open Go.RowKit Go.PlainOps

def Rn.at (s : Rn) (F : Nat) : Rn := { s with fuel := F }
section
variable {fs : List Fn} (hA : AllV fs) (L : Bool)
include hA
/-- What ends, ends with any fuel that suffices, and alike. -/
theorem loop_shift : ∀ (g : Nat) (s : Rn) (t : Tk) (at_ : Nat), s.In L → t.In fs s.fuel → at_ < (codeOf fs t.node.func).length → ∀ v sp s', loopV fs L g s t at_ = .done v sp s' →
    ∀ (g2 F : Nat), F < g2 → s.fuel - s'.fuel ≤ F → loopV fs L g2 (s.at F) t at_ = .done v sp (s'.at (F - (s.fuel - s'.fuel)))
  | 0, s, t, at_, hs, ht, hat, v, sp, s', h, g2, F, hg, hF => by simp [loopV] at h
  | g + 1, s, t, at_, hs, ht, hat, v, sp, s', h, g2, F, hg, hF => by
    have h0 : s.fuel ≠ 0 := fun h0 => by rw [loop_out h0] at h; cases h
    obtain ⟨m, hm⟩ : ∃ m, s.fuel = m + 1 := ⟨s.fuel - 1, by omega⟩
    have hpf : (payS s).fuel = m := by simp [payS, hm]
    obtain ⟨f, hf, _, hcf, hV, hok⟩ := hA.fn ht.func
    have hat' := hat
    rw [hcf] at hat'
    obtain ⟨i, hi⟩ : ∃ i, f.code[at_]? = some i := ⟨f.code[at_]'hat', by simp⟩
    have hic : (codeOf fs t.node.func)[at_]? = some i := by rw [hcf]; exact hi
    have so := step_ok hV hi
    have hik := (hok.code i (List.mem_of_getElem? hi)).k
    have ht' := ht
    rw [hm] at ht'
    have hd := loop_in hA L (g + 1) s t at_ hs ht hat v sp s' h
    have hfu := hd.fuel
    have hnl : i.kind ≠ 3 → i.kind ≠ 9 → at_ + 1 < (codeOf fs t.node.func).length := fun h3 h9 => by rw [hcf]; exact so.next h3 h9
    obtain ⟨g3, rfl⟩ : ∃ g3, g2 = g3 + 1 := ⟨g2 - 1, by omega⟩
    have hcases : i.kind = 3 ∨ i.kind = 4 ∨ i.kind = 5 ∨ i.kind = 6 ∨ i.kind = 9 ∨ (i.kind = 0 ∨ i.kind = 1 ∨ i.kind = 2 ∨ i.kind = 7 ∨ i.kind = 8) := by have := so.kind; omega
    -- the fuel that is asked is at least one
    have key : ∀ {t1 : Tk} {at1 : Nat}, t1.In fs m → at1 < (codeOf fs t1.node.func).length → loopV fs L g (payS s) t1 at1 = .done v sp s' → s'.fuel ≤ m ∧ (1 ≤ F → loopV fs L g3 ((payS s).at (F - 1)) t1 at1 = .done v sp (s'.at (F - (s.fuel - s'.fuel)))) := by
      intro t1 at1 hti hat1 h1
      have hd1 := (loop_in hA L g (payS s) t1 at1 hs.pay (by rw [hpf]; exact hti) hat1 v sp s' h1).fuel
      rw [hpf] at hd1
      refine ⟨hd1, fun hF1 => ?_⟩
      have := loop_shift g (payS s) t1 at1 hs.pay (by rw [hpf]; exact hti) hat1 v sp s' h1 g3 (F - 1) (by omega) (by rw [hpf]; omega)
      rw [this, hpf]
      congr 2
      omega
    have hpa : ∀ F, payS (s.at F) = (payS s).at (F - 1) := fun F => rfl
    have hfa : ∀ F, 1 ≤ F → (s.at F).fuel ≠ 0 := fun F hF => by show ¬ F = 0; omega
    rcases hcases with hk | hk | hk | hk | hk | hk
    · rw [loop_jump h0 hic hk] at h
      obtain ⟨k1, k2⟩ := key ht'.pay (by show _ < (codeOf fs t.node.func).length; rw [hcf]; have := so.jump hk; omega) h
      rw [loop_jump (hfa F (by omega)) hic hk, hpa]
      exact k2 (by omega)
    · rw [loop_branch h0 hic hk] at h
      obtain ⟨k1, k2⟩ := key ht'.pay (by show _ < (codeOf fs t.node.func).length; have := hnl (by omega) (by omega); rw [hcf] at this ⊢; have := so.branch hk; split <;> omega) h
      rw [loop_branch (hfa F (by omega)) hic hk, hpa]
      exact k2 (by omega)
    · rw [loop_spawn h0 hic hk] at h
      have hBg := child_begins hs ht h0 so hk
      cases hp : playV fs L g (payS s) (childV fs (payT t) i) with
      | gave e' => rw [hp] at h; cases h
      | done v1 sp1 s2 =>
        rw [hp] at h
        obtain ⟨d1, d2, d3, d4, d5, d6⟩ := child_done hA hBg rfl hp
        rw [hpf] at d3 d4
        have hti2 := ht'.got (a := i.a.toNat) d1 d2 d3
        have hat2 : at_ + 1 < (codeOf fs (gotT (spawnT (payT t)) i.a.toNat v1 sp1).node.func).length := hnl (by omega) (by omega)
        have hd2 := (loop_in hA L g s2 _ (at_ + 1) d5 hti2 hat2 v sp s' h).fuel
        unfold playV at hp
        have hdp : ¬ 4096 < (childV fs (payT t) i).depth := fun hd => by rw [if_pos hd] at hp; cases hp
        rw [if_neg hdp] at hp
        have htic := hBg.tin hdp
        obtain ⟨f2, _, _, hc2, hV2, _⟩ := hA.fn htic.func
        have cs3 : (enterS L (payS s) (childV fs (payT t) i)).fuel = m := hpf
        have c1 := loop_shift g _ _ 0 (hBg.sin hdp) htic (by rw [hc2]; have := (valid_bounds hV2).2.2.2; omega) v1 sp1 s2 hp g3 (F - 1) (by omega) (by rw [cs3]; omega)
        rw [cs3] at c1
        have r1 := loop_shift g s2 (gotT (spawnT (payT t)) i.a.toNat v1 sp1) (at_ + 1) d5 hti2 hat2 v sp s' h g3 (F - 1 - (m - s2.fuel)) (by omega) (by omega)
        rw [loop_spawn (hfa F (by omega)) hic hk, hpa]
        have e1 : playV fs L g3 ((payS s).at (F - 1)) (childV fs (payT t) i) = .done v1 sp1 (s2.at (F - 1 - (m - s2.fuel))) := by
          unfold playV
          rw [if_neg hdp]
          exact c1
        rw [e1]
        show loopV fs L g3 (s2.at (F - 1 - (m - s2.fuel))) _ _ = _
        rw [r1]
        congr 2
        omega
    · rw [loop_sync h0 hic hk] at h
      obtain ⟨k1, k2⟩ := key ht'.wait (by show _ < (codeOf fs t.node.func).length; exact hnl (by omega) (by omega)) h
      rw [loop_sync (hfa F (by omega)) hic hk, hpa]
      exact k2 (by omega)
    · rw [loop_ret h0 hic hk] at h
      injection h with h1 h2 h3
      have k1 : s'.fuel = m := by rw [← h3]; exact hpf
      rw [loop_ret (hfa F (by omega)) hic hk, hpa]
      have e : leaveS L ((payS s).at (F - 1)) (endT (payT t) (t.regs.getD i.a.toNat 0)) = s'.at (F - (s.fuel - s'.fuel)) := by
        rw [show F - (s.fuel - s'.fuel) = F - 1 by omega, ← h3]
        rfl
      rw [e, h1, h2]
    · rw [loop_comp h0 hic hk] at h
      have en : (computeT (payT t) i).node = (payT t).node := by
        unfold computeT setR
        repeat' split
        all_goals rfl
      obtain ⟨k1, k2⟩ := key (ht'.pay.compute i hik) (by rw [en]; show _ < (codeOf fs t.node.func).length; exact hnl (by omega) (by omega)) h
      rw [loop_comp (hfa F (by omega)) hic hk, hpa]
      exact k2 (by omega)
/-- What is too deep stays so with more fuel. -/
theorem loop_deep : ∀ (g : Nat) (s : Rn) (t : Tk) (at_ : Nat), s.In L → t.In fs s.fuel → at_ < (codeOf fs t.node.func).length → loopV fs L g s t at_ = .gave 63 →
    ∀ (g2 F : Nat), F < g2 → s.fuel ≤ F → loopV fs L g2 (s.at F) t at_ = .gave 63
  | 0, s, t, at_, hs, ht, hat, h, g2, F, hg, hF => by simp [loopV] at h
  | g + 1, s, t, at_, hs, ht, hat, h, g2, F, hg, hF => by
    have h0 : s.fuel ≠ 0 := fun h0 => by rw [loop_out h0] at h; cases h
    obtain ⟨m, hm⟩ : ∃ m, s.fuel = m + 1 := ⟨s.fuel - 1, by omega⟩
    have hpf : (payS s).fuel = m := by simp [payS, hm]
    obtain ⟨f, hf, _, hcf, hV, hok⟩ := hA.fn ht.func
    have hat' := hat
    rw [hcf] at hat'
    obtain ⟨i, hi⟩ : ∃ i, f.code[at_]? = some i := ⟨f.code[at_]'hat', by simp⟩
    have hic : (codeOf fs t.node.func)[at_]? = some i := by rw [hcf]; exact hi
    have so := step_ok hV hi
    have hik := (hok.code i (List.mem_of_getElem? hi)).k
    have ht' := ht
    rw [hm] at ht'
    have hnl : i.kind ≠ 3 → i.kind ≠ 9 → at_ + 1 < (codeOf fs t.node.func).length := fun h3 h9 => by rw [hcf]; exact so.next h3 h9
    obtain ⟨g3, rfl⟩ : ∃ g3, g2 = g3 + 1 := ⟨g2 - 1, by omega⟩
    have hcases : i.kind = 3 ∨ i.kind = 4 ∨ i.kind = 5 ∨ i.kind = 6 ∨ i.kind = 9 ∨ (i.kind = 0 ∨ i.kind = 1 ∨ i.kind = 2 ∨ i.kind = 7 ∨ i.kind = 8) := by have := so.kind; omega
    have hpa : ∀ F, payS (s.at F) = (payS s).at (F - 1) := fun F => rfl
    have hfa : (s.at F).fuel ≠ 0 := by show ¬ F = 0; omega
    have key : ∀ {t1 : Tk} {at1 : Nat}, t1.In fs m → at1 < (codeOf fs t1.node.func).length → loopV fs L g (payS s) t1 at1 = .gave 63 → loopV fs L g3 ((payS s).at (F - 1)) t1 at1 = .gave 63 := by
      intro t1 at1 hti hat1 h1
      exact loop_deep g (payS s) t1 at1 hs.pay (by rw [hpf]; exact hti) hat1 h1 g3 (F - 1) (by omega) (by rw [hpf]; omega)
    rcases hcases with hk | hk | hk | hk | hk | hk
    · rw [loop_jump h0 hic hk] at h
      rw [loop_jump hfa hic hk, hpa]
      exact key ht'.pay (by show _ < (codeOf fs t.node.func).length; rw [hcf]; have := so.jump hk; omega) h
    · rw [loop_branch h0 hic hk] at h
      rw [loop_branch hfa hic hk, hpa]
      exact key ht'.pay (by show _ < (codeOf fs t.node.func).length; have := hnl (by omega) (by omega); rw [hcf] at this ⊢; have := so.branch hk; split <;> omega) h
    · rw [loop_spawn h0 hic hk] at h
      rw [loop_spawn hfa hic hk, hpa]
      have hBg := child_begins hs ht h0 so hk
      cases hp : playV fs L g (payS s) (childV fs (payT t) i) with
      | gave e' =>
        rw [hp] at h
        injection h with h
        subst h
        have e1 : playV fs L g3 ((payS s).at (F - 1)) (childV fs (payT t) i) = .gave 63 := by
          unfold playV at hp ⊢
          by_cases hdp : 4096 < (childV fs (payT t) i).depth
          · rw [if_pos hdp]
          · rw [if_neg hdp] at hp ⊢
            have htic := hBg.tin hdp
            obtain ⟨f2, _, _, hc2, hV2, _⟩ := hA.fn htic.func
            have cs3 : (enterS L (payS s) (childV fs (payT t) i)).fuel = m := hpf
            exact loop_deep g _ _ 0 (hBg.sin hdp) htic (by rw [hc2]; have := (valid_bounds hV2).2.2.2; omega) hp g3 (F - 1) (by omega) (by rw [cs3]; omega)
        rw [e1]
      | done v1 sp1 s2 =>
        rw [hp] at h
        obtain ⟨d1, d2, d3, d4, d5, d6⟩ := child_done hA hBg rfl hp
        rw [hpf] at d3 d4
        have hti2 := ht'.got (a := i.a.toNat) d1 d2 d3
        have hat2 : at_ + 1 < (codeOf fs (gotT (spawnT (payT t)) i.a.toNat v1 sp1).node.func).length := hnl (by omega) (by omega)
        unfold playV at hp
        have hdp : ¬ 4096 < (childV fs (payT t) i).depth := fun hd => by rw [if_pos hd] at hp; cases hp
        rw [if_neg hdp] at hp
        have htic := hBg.tin hdp
        obtain ⟨f2, _, _, hc2, hV2, _⟩ := hA.fn htic.func
        have cs3 : (enterS L (payS s) (childV fs (payT t) i)).fuel = m := hpf
        have c1 := loop_shift hA L g _ _ 0 (hBg.sin hdp) htic (by rw [hc2]; have := (valid_bounds hV2).2.2.2; omega) v1 sp1 s2 hp g3 (F - 1) (by omega) (by rw [cs3]; omega)
        rw [cs3] at c1
        have e1 : playV fs L g3 ((payS s).at (F - 1)) (childV fs (payT t) i) = .done v1 sp1 (s2.at (F - 1 - (m - s2.fuel))) := by
          unfold playV
          rw [if_neg hdp]
          exact c1
        rw [e1]
        exact loop_deep g s2 (gotT (spawnT (payT t)) i.a.toNat v1 sp1) (at_ + 1) d5 hti2 hat2 h g3 _ (by omega) (by omega)
    · rw [loop_sync h0 hic hk] at h
      rw [loop_sync hfa hic hk, hpa]
      exact key ht'.wait (by show _ < (codeOf fs t.node.func).length; exact hnl (by omega) (by omega)) h
    · rw [loop_ret h0 hic hk] at h
      cases h
    · rw [loop_comp h0 hic hk] at h
      rw [loop_comp hfa hic hk, hpa]
      have en : (computeT (payT t) i).node = (payT t).node := by
        unfold computeT setR
        repeat' split
        all_goals rfl
      exact key (ht'.pay.compute i hik) (by rw [en]; show _ < (codeOf fs t.node.func).length; exact hnl (by omega) (by omega)) h
end
/-- The root, with other fuel. -/
theorem run_shift {fs : List Fn} (hA : AllV fs) {zs : List Int} (hz : ∀ x ∈ zs, okI x) {F : Nat} (hF : F ≤ 4194304) {v sp : Int} {s : Rn} (h : runV fs false zs F = .done v sp s) (F2 : Nat) (h2 : F - s.fuel ≤ F2) : runV fs false zs F2 = .done v sp (s.at (F2 - (F - s.fuel))) := by
  have hBg := root_begins hA false hz F hF
  unfold runV playV at h ⊢
  have hd : ¬ 4096 < (rootT zs).depth := by simp [rootT]
  rw [if_neg hd] at h ⊢
  have hti := hBg.tin hd
  obtain ⟨f, hf, _, hc, hV, _⟩ := hA.fn hti.func
  exact loop_shift hA false (F + 1) _ _ 0 (hBg.sin hd) hti (by rw [hc]; have := (valid_bounds hV).2.2.2; omega) v sp s h (F2 + 1) F2 (by omega) h2
theorem run_deep {fs : List Fn} (hA : AllV fs) {zs : List Int} (hz : ∀ x ∈ zs, okI x) {F : Nat} (hF : F ≤ 4194304) (h : runV fs false zs F = .gave 63) (F2 : Nat) (h2 : F ≤ F2) : runV fs false zs F2 = .gave 63 := by
  have hBg := root_begins hA false hz F hF
  unfold runV playV at h ⊢
  have hd : ¬ 4096 < (rootT zs).depth := by simp [rootT]
  rw [if_neg hd] at h ⊢
  have hti := hBg.tin hd
  obtain ⟨f, hf, _, hc, hV, _⟩ := hA.fn hti.func
  exact loop_deep hA false (F + 1) _ _ 0 (hBg.sin hd) hti (by rw [hc]; have := (valid_bounds hV).2.2.2; omega) h (F2 + 1) F2 (by omega) h2
theorem run_gave {fs : List Fn} (hA : AllV fs) {zs : List Int} (hz : ∀ x ∈ zs, okI x) {F : Nat} (hF : F ≤ 4194304) {e : Int} (h : runV fs false zs F = .gave e) : e = 62 ∨ e = 63 := by
  have hBg := root_begins hA false hz F hF
  unfold runV playV at h
  have hd : ¬ 4096 < (rootT zs).depth := by simp [rootT]
  rw [if_neg hd] at h
  have hti := hBg.tin hd
  obtain ⟨f, hf, _, hc, hV, _⟩ := hA.fn hti.func
  exact loop_gave hA false (F + 1) _ _ 0 (hBg.sin hd) hti (by rw [hc]; have := (valid_bounds hV).2.2.2; omega) e h
end Go.Proofs.YtokfbagacehbgaaDoor
