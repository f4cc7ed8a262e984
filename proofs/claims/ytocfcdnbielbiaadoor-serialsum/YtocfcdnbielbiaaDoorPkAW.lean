import Derived.Test.YtocfcdnbielbiaaDoorPkAV
import Derived.Laws.StructEq
/-! Fuel changes nothing but whether there is an answer, plainly. -/
namespace Go.Proofs.YtocfcdnbielbiaaDoor
set_option linter.unusedVariables false
set_option maxRecDepth 20000
open Go.RowKit Go.PlainOps

def Rn.at (s : Rn) (F : Nat) : Rn := { s with fuel := F }
section
variable {fs : List Fn} (hA : AllV fs) (L : Bool)
include hA
/-- What ends, ends with any fuel that suffices, and alike. -/
theorem loop_shift : ∀ (g : Nat) (s : Rn) (t : Tk) (at_ : Nat), s.In L → t.In fs s.fuel → at_ < (codeOf fs t.node.func).length → ∀ v sp s', loopV fs L g s t at_ = .done v sp s' →
    ∀ (g2 F : Nat), F < g2 → s.fuel - s'.fuel ≤ F → loopV fs L g2 (s.at F) t at_ = .done v sp (s'.at (F - (s.fuel - s'.fuel)))
  | 0, s, t, at_, hs, ht, hat, v, sp, s', h, g2, F, hg, hF => by simp [loopV] at h
  | g + 1, s, t, at_, hs, ht, hat, v, sp, s', h, g2, F, hg, hF => by
    have h0 : s.fuel ≠ 0 := fun h0 => by rw [loop_out h0] at h; cases h
    obtain ⟨m, hm⟩ : ∃ m, s.fuel = m + 1 := ⟨s.fuel - 1, by omega⟩
    have hpf : (payS s).fuel = m := by simp [payS, hm]
    obtain ⟨f, hf, _, hcf, hV, hok⟩ := hA.fn ht.func
    have hat' := hat
    rw [hcf] at hat'
    obtain ⟨i, hi⟩ : ∃ i, f.code[at_]? = some i := ⟨f.code[at_]'hat', by simp⟩
    have hic : (codeOf fs t.node.func)[at_]? = some i := by rw [hcf]; exact hi
    have so := step_ok hV hi
    have hik := (hok.code i (List.mem_of_getElem? hi)).k
    have ht' := ht
    rw [hm] at ht'
    have hd := loop_in hA L (g + 1) s t at_ hs ht hat v sp s' h
    have hfu := hd.fuel
    have hnl : i.kind ≠ 3 → i.kind ≠ 9 → at_ + 1 < (codeOf fs t.node.func).length := fun h3 h9 => by rw [hcf]; exact so.next h3 h9
    obtain ⟨g3, rfl⟩ : ∃ g3, g2 = g3 + 1 := ⟨g2 - 1, by omega⟩
    have hcases : i.kind = 3 ∨ i.kind = 4 ∨ i.kind = 5 ∨ i.kind = 6 ∨ i.kind = 9 ∨ (i.kind = 0 ∨ i.kind = 1 ∨ i.kind = 2 ∨ i.kind = 7 ∨ i.kind = 8) := by have := so.kind; omega
    -- the fuel that is asked is at least one
    have key : ∀ {t1 : Tk} {at1 : Nat}, t1.In fs m → at1 < (codeOf fs t1.node.func).length → loopV fs L g (payS s) t1 at1 = .done v sp s' → s'.fuel ≤ m ∧ (1 ≤ F → loopV fs L g3 ((payS s).at (F - 1)) t1 at1 = .done v sp (s'.at (F - (s.fuel - s'.fuel)))) := by
      intro t1 at1 hti hat1 h1
      have hd1 := (loop_in hA L g (payS s) t1 at1 hs.pay (by rw [hpf]; exact hti) hat1 v sp s' h1).fuel
      rw [hpf] at hd1
      refine ⟨hd1, fun hF1 => ?_⟩
      have := loop_shift g (payS s) t1 at1 hs.pay (by rw [hpf]; exact hti) hat1 v sp s' h1 g3 (F - 1) (by omega) (by rw [hpf]; omega)
      rw [this, hpf]
      congr 2
      omega
    have hpa : ∀ F, payS (s.at F) = (payS s).at (F - 1) := fun F => rfl
    have hfa : ∀ F, 1 ≤ F → (s.at F).fuel ≠ 0 := fun F hF => by show ¬ F = 0; omega
    rcases hcases with hk | hk | hk | hk | hk | hk
    · rw [loop_jump h0 hic hk] at h
      obtain ⟨k1, k2⟩ := key ht'.pay (by show _ < (codeOf fs t.node.func).length; rw [hcf]; have := so.jump hk; omega) h
      rw [loop_jump (hfa F (by omega)) hic hk, hpa]
      exact k2 (by omega)
    · rw [loop_branch h0 hic hk] at h
      obtain ⟨k1, k2⟩ := key ht'.pay (by show _ < (codeOf fs t.node.func).length; have := hnl (by omega) (by omega); rw [hcf] at this ⊢; have := so.branch hk; split <;> omega) h
      rw [loop_branch (hfa F (by omega)) hic hk, hpa]
      exact k2 (by omega)
    · rw [loop_spawn h0 hic hk] at h
      have hBg := child_begins hs ht h0 so hk
      cases hp : playV fs L g (payS s) (childV fs (payT t) i) with
      | gave e' => rw [hp] at h; cases h
      | done v1 sp1 s2 =>
        rw [hp] at h
        obtain ⟨d1, d2, d3, d4, d5, d6⟩ := child_done hA hBg rfl hp
        rw [hpf] at d3 d4
        have hti2 := ht'.got (a := i.a.toNat) d1 d2 d3
        have hat2 : at_ + 1 < (codeOf fs (gotT (spawnT (payT t)) i.a.toNat v1 sp1).node.func).length := hnl (by omega) (by omega)
        have hd2 := (loop_in hA L g s2 _ (at_ + 1) d5 hti2 hat2 v sp s' h).fuel
        unfold playV at hp
        have hdp : ¬ 4096 < (childV fs (payT t) i).depth := fun hd => by rw [if_pos hd] at hp; cases hp
        rw [if_neg hdp] at hp
        have htic := hBg.tin hdp
        obtain ⟨f2, _, _, hc2, hV2, _⟩ := hA.fn htic.func
        have cs3 : (enterS L (payS s) (childV fs (payT t) i)).fuel = m := hpf
        have c1 := loop_shift g _ _ 0 (hBg.sin hdp) htic (by rw [hc2]; have := (valid_bounds hV2).2.2.2; omega) v1 sp1 s2 hp g3 (F - 1) (by omega) (by rw [cs3]; omega)
        rw [cs3] at c1
        have r1 := loop_shift g s2 (gotT (spawnT (payT t)) i.a.toNat v1 sp1) (at_ + 1) d5 hti2 hat2 v sp s' h g3 (F - 1 - (m - s2.fuel)) (by omega) (by omega)
        rw [loop_spawn (hfa F (by omega)) hic hk, hpa]
        have e1 : playV fs L g3 ((payS s).at (F - 1)) (childV fs (payT t) i) = .done v1 sp1 (s2.at (F - 1 - (m - s2.fuel))) := by
          unfold playV
          rw [if_neg hdp]
          exact c1
        rw [e1]
        show loopV fs L g3 (s2.at (F - 1 - (m - s2.fuel))) _ _ = _
        rw [r1]
        congr 2
        omega
    · rw [loop_sync h0 hic hk] at h
      obtain ⟨k1, k2⟩ := key ht'.wait (by show _ < (codeOf fs t.node.func).length; exact hnl (by omega) (by omega)) h
      rw [loop_sync (hfa F (by omega)) hic hk, hpa]
      exact k2 (by omega)
    · rw [loop_ret h0 hic hk] at h
      injection h with h1 h2 h3
      have k1 : s'.fuel = m := by rw [← h3]; exact hpf
      rw [loop_ret (hfa F (by omega)) hic hk, hpa]
      have e : leaveS L ((payS s).at (F - 1)) (endT (payT t) (t.regs.getD i.a.toNat 0)) = s'.at (F - (s.fuel - s'.fuel)) := by
        rw [show F - (s.fuel - s'.fuel) = F - 1 by omega, ← h3]
        rfl
      rw [e, h1, h2]
    · rw [loop_comp h0 hic hk] at h
      have en : (computeT (payT t) i).node = (payT t).node := by
        unfold computeT setR
        repeat' split
        all_goals rfl
      obtain ⟨k1, k2⟩ := key (ht'.pay.compute i hik) (by rw [en]; show _ < (codeOf fs t.node.func).length; exact hnl (by omega) (by omega)) h
      rw [loop_comp (hfa F (by omega)) hic hk, hpa]
      exact k2 (by omega)
/-- What is too deep stays so with more fuel. -/
theorem loop_deep : ∀ (g : Nat) (s : Rn) (t : Tk) (at_ : Nat), s.In L → t.In fs s.fuel → at_ < (codeOf fs t.node.func).length → loopV fs L g s t at_ = .gave 63 →
    ∀ (g2 F : Nat), F < g2 → s.fuel ≤ F → loopV fs L g2 (s.at F) t at_ = .gave 63
  | 0, s, t, at_, hs, ht, hat, h, g2, F, hg, hF => by simp [loopV] at h
  | g + 1, s, t, at_, hs, ht, hat, h, g2, F, hg, hF => by
    have h0 : s.fuel ≠ 0 := fun h0 => by rw [loop_out h0] at h; cases h
    obtain ⟨m, hm⟩ : ∃ m, s.fuel = m + 1 := ⟨s.fuel - 1, by omega⟩
    have hpf : (payS s).fuel = m := by simp [payS, hm]
    obtain ⟨f, hf, _, hcf, hV, hok⟩ := hA.fn ht.func
    have hat' := hat
    rw [hcf] at hat'
    obtain ⟨i, hi⟩ : ∃ i, f.code[at_]? = some i := ⟨f.code[at_]'hat', by simp⟩
    have hic : (codeOf fs t.node.func)[at_]? = some i := by rw [hcf]; exact hi
    have so := step_ok hV hi
    have hik := (hok.code i (List.mem_of_getElem? hi)).k
    have ht' := ht
    rw [hm] at ht'
    have hnl : i.kind ≠ 3 → i.kind ≠ 9 → at_ + 1 < (codeOf fs t.node.func).length := fun h3 h9 => by rw [hcf]; exact so.next h3 h9
    obtain ⟨g3, rfl⟩ : ∃ g3, g2 = g3 + 1 := ⟨g2 - 1, by omega⟩
    have hcases : i.kind = 3 ∨ i.kind = 4 ∨ i.kind = 5 ∨ i.kind = 6 ∨ i.kind = 9 ∨ (i.kind = 0 ∨ i.kind = 1 ∨ i.kind = 2 ∨ i.kind = 7 ∨ i.kind = 8) := by have := so.kind; omega
    have hpa : ∀ F, payS (s.at F) = (payS s).at (F - 1) := fun F => rfl
    have hfa : (s.at F).fuel ≠ 0 := by show ¬ F = 0; omega
    have key : ∀ {t1 : Tk} {at1 : Nat}, t1.In fs m → at1 < (codeOf fs t1.node.func).length → loopV fs L g (payS s) t1 at1 = .gave 63 → loopV fs L g3 ((payS s).at (F - 1)) t1 at1 = .gave 63 := by
      intro t1 at1 hti hat1 h1
      exact loop_deep g (payS s) t1 at1 hs.pay (by rw [hpf]; exact hti) hat1 h1 g3 (F - 1) (by omega) (by rw [hpf]; omega)
    rcases hcases with hk | hk | hk | hk | hk | hk
    · rw [loop_jump h0 hic hk] at h
      rw [loop_jump hfa hic hk, hpa]
      exact key ht'.pay (by show _ < (codeOf fs t.node.func).length; rw [hcf]; have := so.jump hk; omega) h
    · rw [loop_branch h0 hic hk] at h
      rw [loop_branch hfa hic hk, hpa]
      exact key ht'.pay (by show _ < (codeOf fs t.node.func).length; have := hnl (by omega) (by omega); rw [hcf] at this ⊢; have := so.branch hk; split <;> omega) h
    · rw [loop_spawn h0 hic hk] at h
      rw [loop_spawn hfa hic hk, hpa]
      have hBg := child_begins hs ht h0 so hk
      cases hp : playV fs L g (payS s) (childV fs (payT t) i) with
      | gave e' =>
        rw [hp] at h
        injection h with h
        subst h
        have e1 : playV fs L g3 ((payS s).at (F - 1)) (childV fs (payT t) i) = .gave 63 := by
          unfold playV at hp ⊢
          by_cases hdp : 4096 < (childV fs (payT t) i).depth
          · rw [if_pos hdp]
          · rw [if_neg hdp] at hp ⊢
            have htic := hBg.tin hdp
            obtain ⟨f2, _, _, hc2, hV2, _⟩ := hA.fn htic.func
            have cs3 : (enterS L (payS s) (childV fs (payT t) i)).fuel = m := hpf
            exact loop_deep g _ _ 0 (hBg.sin hdp) htic (by rw [hc2]; have := (valid_bounds hV2).2.2.2; omega) hp g3 (F - 1) (by omega) (by rw [cs3]; omega)
        rw [e1]
      | done v1 sp1 s2 =>
        rw [hp] at h
        obtain ⟨d1, d2, d3, d4, d5, d6⟩ := child_done hA hBg rfl hp
        rw [hpf] at d3 d4
        have hti2 := ht'.got (a := i.a.toNat) d1 d2 d3
        have hat2 : at_ + 1 < (codeOf fs (gotT (spawnT (payT t)) i.a.toNat v1 sp1).node.func).length := hnl (by omega) (by omega)
        unfold playV at hp
        have hdp : ¬ 4096 < (childV fs (payT t) i).depth := fun hd => by rw [if_pos hd] at hp; cases hp
        rw [if_neg hdp] at hp
        have htic := hBg.tin hdp
        obtain ⟨f2, _, _, hc2, hV2, _⟩ := hA.fn htic.func
        have cs3 : (enterS L (payS s) (childV fs (payT t) i)).fuel = m := hpf
        have c1 := loop_shift hA L g _ _ 0 (hBg.sin hdp) htic (by rw [hc2]; have := (valid_bounds hV2).2.2.2; omega) v1 sp1 s2 hp g3 (F - 1) (by omega) (by rw [cs3]; omega)
        rw [cs3] at c1
        have e1 : playV fs L g3 ((payS s).at (F - 1)) (childV fs (payT t) i) = .done v1 sp1 (s2.at (F - 1 - (m - s2.fuel))) := by
          unfold playV
          rw [if_neg hdp]
          exact c1
        rw [e1]
        exact loop_deep g s2 (gotT (spawnT (payT t)) i.a.toNat v1 sp1) (at_ + 1) d5 hti2 hat2 h g3 _ (by omega) (by omega)
    · rw [loop_sync h0 hic hk] at h
      rw [loop_sync hfa hic hk, hpa]
      exact key ht'.wait (by show _ < (codeOf fs t.node.func).length; exact hnl (by omega) (by omega)) h
    · rw [loop_ret h0 hic hk] at h
      cases h
    · rw [loop_comp h0 hic hk] at h
      rw [loop_comp hfa hic hk, hpa]
      have en : (computeT (payT t) i).node = (payT t).node := by
        unfold computeT setR
        repeat' split
        all_goals rfl
      exact key (ht'.pay.compute i hik) (by rw [en]; show _ < (codeOf fs t.node.func).length; exact hnl (by omega) (by omega)) h
end
/-- The root, with other fuel. -/
theorem run_shift {fs : List Fn} (hA : AllV fs) {zs : List Int} (hz : ∀ x ∈ zs, okI x) {F : Nat} (hF : F ≤ 4194304) {v sp : Int} {s : Rn} (h : runV fs false zs F = .done v sp s) (F2 : Nat) (h2 : F - s.fuel ≤ F2) : runV fs false zs F2 = .done v sp (s.at (F2 - (F - s.fuel))) := by
  have hBg := root_begins hA false hz F hF
  unfold runV playV at h ⊢
  have hd : ¬ 4096 < (rootT zs).depth := by simp [rootT]
  rw [if_neg hd] at h ⊢
  have hti := hBg.tin hd
  obtain ⟨f, hf, _, hc, hV, _⟩ := hA.fn hti.func
  exact loop_shift hA false (F + 1) _ _ 0 (hBg.sin hd) hti (by rw [hc]; have := (valid_bounds hV).2.2.2; omega) v sp s h (F2 + 1) F2 (by omega) h2
theorem run_deep {fs : List Fn} (hA : AllV fs) {zs : List Int} (hz : ∀ x ∈ zs, okI x) {F : Nat} (hF : F ≤ 4194304) (h : runV fs false zs F = .gave 63) (F2 : Nat) (h2 : F ≤ F2) : runV fs false zs F2 = .gave 63 := by
  have hBg := root_begins hA false hz F hF
  unfold runV playV at h ⊢
  have hd : ¬ 4096 < (rootT zs).depth := by simp [rootT]
  rw [if_neg hd] at h ⊢
  have hti := hBg.tin hd
  obtain ⟨f, hf, _, hc, hV, _⟩ := hA.fn hti.func
  exact loop_deep hA false (F + 1) _ _ 0 (hBg.sin hd) hti (by rw [hc]; have := (valid_bounds hV).2.2.2; omega) h (F2 + 1) F2 (by omega) h2
theorem run_gave {fs : List Fn} (hA : AllV fs) {zs : List Int} (hz : ∀ x ∈ zs, okI x) {F : Nat} (hF : F ≤ 4194304) {e : Int} (h : runV fs false zs F = .gave e) : e = 62 ∨ e = 63 := by
  have hBg := root_begins hA false hz F hF
  unfold runV playV at h
  have hd : ¬ 4096 < (rootT zs).depth := by simp [rootT]
  rw [if_neg hd] at h
  have hti := hBg.tin hd
  obtain ⟨f, hf, _, hc, hV, _⟩ := hA.fn hti.func
  exact loop_gave hA false (F + 1) _ _ 0 (hBg.sin hd) hti (by rw [hc]; have := (valid_bounds hV).2.2.2; omega) e h
end Go.Proofs.YtocfcdnbielbiaaDoor
/-! Tree. -/
namespace Go.Proofs.YtocfcdnbielbiaaDoor
set_option linter.unusedVariables false
set_option maxRecDepth 20000
open Go.RowKit Go.HeapKit Go.PlainOps

theorem nd_made (T : Nat) (hT : T ≤ 8388608) : ∃ M : Array Value, M.size = T * 7 ∧ ∀ w : World, (Instr.makeSlice 35 (.int .i64 0) (.int .i64 (T : Int))).run Tryd.prog w = .ok (.slice (some ⟨w.heap.size, 0, none⟩) 0 T) (w.alloc (.cells M 41)) := by
  obtain ⟨i0, hi, hz0, hz1, hz2⟩ := info_parts Tryd.infoNd
  refine ⟨madeCells (Value.agg #[.int .i64 0, .int .i64 0, .int .i64 0, .int .i64 0, .int .i64 0, .int .i64 0, .int .i64 0]).cells (T * 7), size_madeCells _ _, fun w => ?_⟩
  have h := run_make (P := Tryd.prog) w 35 41 i0 _ Tryd.underlying35 hi hz0 .i64 .i64 0 (T : Int) (by omega) (by omega) (by rw [hz2]; omega) (by omega)
  rw [hz1] at h
  simpa using h
/-- What Tree hands out. -/
def TreePost (l : List Fn) (zs : List Int) (fuel : Int) (w : World) (e : Ending) (w' : World) : Prop :=
  ∃ nv, e = .returned (.tuple #[nv, .int .i64 (evalV l zs fuel).2]) ∧ Keeps None w w' ∧ (∀ g, nv.ownBlock = some g → w.heap.size ≤ g) ∧
    ((evalV l zs fuel).2 ≠ 0 → nv = .slice none 0 0) ∧ ((evalV l zs fuel).2 = 0 → w'.ownsRow 0 41 7 nv (treeV l zs fuel).length (ndVals (treeV l zs fuel)))
set_option maxHeartbeats 2000000 in
theorem tree_any (a : Option Addr) (n c : Nat) (l : List Fn) (aa : Option Addr) (an ac : Nat) (zs : List Int) (fuel : Int) (w : World) (hT : Tabs w) (hS : SeenF w a n l) (hok : ∀ f ∈ l, f.Ok) (hZ : SeenA w aa an zs) (hZ2 : an ≤ 9223372036854775807) (hfu : okI fuel) :
    Calls Tryd.prog 14 #[.agg #[.slice a n c], .slice aa an ac, .int .i64 fuel] w (TreePost l zs fuel w) := by
  obtain ⟨B, hB⟩ : ∃ B, B = w.heap.size := ⟨_, rfl⟩
  have b1 := heap_alloc_new w (.cells #[.slice a n c] 24)
  have hk1 := Keeps.alloc None w (.cells #[.slice a n c] 24)
  obtain ⟨W, hW⟩ : ∃ W, W = w.alloc (.cells #[.slice a n c] 24) := ⟨_, rfl⟩
  rw [← hW, ← hB] at b1
  rw [← hW] at hk1
  have hev := eval_any a n c l aa an ac zs fuel W (hT.more hk1) (hS.more hk1) hok (hZ.more hk1) hZ2 hfu
  have d0 : W.cell? ⟨B, 0, none⟩ = some (.slice a n c) := (blk_cell b1 0).trans rfl
  have HX : Hid (B = w.heap.size ∧ Keeps None w W ∧ W.heap[B]? = some (.cells #[.slice a n c] 24 (0, 0)) ∧ SeenF w a n l ∧ (∀ f ∈ l, f.Ok) ∧ SeenA w aa an zs) := ⟨hB, hk1, b1, hS, hok, hZ⟩
  by_cases he0 : (evalV l zs fuel).2 = 0
  · have hr0 : refusedV l zs fuel = 0 := by
      by_cases h : refusedV l zs fuel = 0
      · exact h
      · unfold evalV at he0
        rw [if_pos h] at he0
        exact absurd he0 h
    obtain ⟨hcz, hpz, hf0, hf1⟩ := refused_zero hr0
    have hA := allV_of hcz hok
    obtain ⟨F, rfl⟩ := Int.eq_ofNat_of_zero_le hf0
    have hz8 := root_le hA hpz
    have hBg := root_begins hA true hZ.ok F (by omega)
    have hbare := run_bare' l zs F
    obtain ⟨v, sp, s, hrun, hdone⟩ : ∃ v sp s, runV l true zs F = .done v sp s ∧ evalV l zs (F : Int) = (⟨v, (F : Int) - s.fuel, s.tasks, s.depth, sp⟩, 0) := by
      have hev2 : evalV l zs (F : Int) = (match runV l false zs F with
        | .gave e => (zeroVal, e)
        | .done v sp s => (⟨v, (F : Int) - s.fuel, s.tasks, s.depth, sp⟩, 0)) := by
        unfold evalV
        rw [if_neg (by simpa using hr0)]
        rfl
      rw [hbare] at hev2
      cases hq : runV l true zs F with
      | gave e =>
        rw [hq] at hev2
        have : evalV l zs (F : Int) = (zeroVal, e) := hev2
        rw [this] at he0
        have he : e ≠ 0 := gave_ne hA hBg hq
        exact absurd he0 he
      | done v sp s =>
        rw [hq] at hev2
        exact ⟨v, sp, s, rfl, hev2⟩
    obtain ⟨_, _, _, h4, h5, _⟩ := child_done hA hBg rfl hrun
    have htk : s.tasks ≤ 8388608 := by have := h5.tasks; omega
    obtain ⟨M, hMs, hmk⟩ := nd_made s.tasks htk
    have htv : treeV l zs (F : Int) = s.nodes := by
      unfold treeV
      rw [show (F : Int).toNat = F from rfl, hrun]
    have hpl := fun (R : Nat) (nv : Value) (wx : World) (hRx : w.heap.size ≤ R) (hnx : ∀ g, nv.ownBlock = some g → w.heap.size ≤ g) (hkx : Keeps None w wx) (hrx : IsRn wx R (.slice a n c) true (startS F) nv) => play_any l hA true a n c w R F (F + 1) (startS F) (rootT zs) nv wx (Nat.lt_succ_self _) (Nat.le_refl _) hrx ⟨hS, hkx, hRx, hnx⟩ hBg
    have hpl2 : ∀ (R : Nat) (nv : Value) (wx : World) (hRx : w.heap.size ≤ R) (hnx : ∀ g, nv.ownBlock = some g → w.heap.size ≤ g) (hkx : Keeps None w wx) (hrx : IsRn wx R (.slice a n c) true (startS F) nv), Calls Tryd.prog 25 #[.pointer (some ⟨R, 0, none⟩), tkV (rootT zs)] wx (PlaysTo R (.slice a n c) true nv wx (.done v sp s)) := by
      rw [← hrun]
      exact hpl
    have hrt := fun (wx : World) (hkx : Keeps None w wx) => root_any aa an ac zs wx (hZ.more hkx) (by have := hZ.len; omega)
    have HPL : Hid _ := hpl2
    have HRT : Hid _ := hrt
    have HTV : Hid (treeV l zs (F : Int) = s.nodes ∧ evalV l zs (F : Int) = (⟨v, (F : Int) - s.fuel, s.tasks, s.depth, sp⟩, 0) ∧ M.size = s.tasks * 7 ∧ s.tasks ≤ 8388608) := ⟨htv, hdone, hMs, htk⟩
    rw [hdone] at hev
    unfold valC at hev
    simp only at hev
    clear hpl hpl2 hrt htv hBg hbare hrun hdone h4 h5 htk hA hcz hpz hr0 he0 hz8 hT hS hok hZ hk1 b1 hMs
    unfold tkV at HPL HRT
    generalize Value.agg (ints ((rootT zs).l 0 0 0)).toArray = tv at *
    go_enter Tryd.func14, Tryd.ntmps14
    go_upto_region 1 with fail
    rw [← hW, ← hB]
    clear hW hB
    go_upto_region 2 with (go_at_call 10; refine hev.mono ?_; rintro _ w2 ⟨rfl, hk2⟩)
    have e0 := hk2.cell d0 (fun f => f)
    have hal := Keeps.alloc None w2 (.cells #[.int .i64 v, .int .i64 ((F : Int) - s.fuel), .int .i64 s.tasks, .int .i64 s.depth, .int .i64 sp] 28)
    have bV := heap_alloc_new w2 (.cells #[.int .i64 v, .int .i64 ((F : Int) - s.fuel), .int .i64 s.tasks, .int .i64 s.depth, .int .i64 sp] 28)
    obtain ⟨V, hV⟩ : ∃ V, V = w2.alloc (.cells #[.int .i64 v, .int .i64 ((F : Int) - s.fuel), .int .i64 s.tasks, .int .i64 s.depth, .int .i64 sp] 28) := ⟨_, rfl⟩
    obtain ⟨G, hG⟩ : ∃ G, G = w2.heap.size := ⟨_, rfl⟩
    rw [← hV] at hal bV
    rw [← hG] at bV
    rw [← hV, ← hG]
    have f0 := hal.cell e0 (fun f => f)
    have f1 : V.cell? ⟨G, 2, none⟩ = some (.int .i64 s.tasks) := (blk_cell bV 2).trans rfl
    have HV : Hid (Keeps None w V ∧ w.heap.size ≤ V.heap.size) := ⟨(HX.out.2.1.trans hk2 (fun _ f _ => f)).trans hal (fun _ f _ => f), ((HX.out.2.1.trans hk2 (fun _ f _ => f)).trans hal (fun _ f _ => f)).size⟩
    clear hV hG hal bV hk2 e0 d0 hev
    go_upto_region 4 with fail
    go_cut [10] (fun s10 wx => ∃ R g, s10 = .pointer (some ⟨R, 0, none⟩) ∧ w.heap.size ≤ R ∧ w.heap.size ≤ g ∧ IsRn wx R (.slice a n c) true (startS F) (.slice (some ⟨g, 0, none⟩) 0 s.tasks) ∧ Keeps None w wx)
    case first =>
      go_region_held3 (fun w' => w'.cell? ⟨B, 0, none⟩ = some (.slice a n c) ∧ w'.cell? ⟨G, 2, none⟩ = some (.int .i64 s.tasks)) (go_keep) (fail)
      all_goals (go_wp2_with fail; go_meet)
      · obtain ⟨p1, p2⟩ := two_boxes V M #[.slice a n c, .int .i64 F, .int .i64 0, .int .i64 0, .bool true, .slice (some ⟨V.heap.size, 0, none⟩) 0 s.tasks] 41 57
        have hk := keeps2 V (.cells M 41) (.cells #[.slice a n c, .int .i64 F, .int .i64 0, .int .i64 0, .bool true, .slice (some ⟨V.heap.size, 0, none⟩) 0 s.tasks] 57)
        exact ⟨V.heap.size + 1, V.heap.size, rfl, by have := HV.out.2; omega, HV.out.2, ⟨p2, ⟨rfl, .inr ⟨_, s.tasks, M, rfl, Nat.zero_le _, p1, Nat.zero_le _, by have := HTV.out.2.2.2; unfold maxLen; omega, HTV.out.2.2.1, rfl⟩⟩⟩, (HV.out.1.trans hk (fun _ f _ => f)).andDrew⟩
      · obtain ⟨p1, p2⟩ := two_boxes V #[.slice a n c, .int .i64 F, .int .i64 0, .int .i64 0, .bool true, .slice (some ⟨V.heap.size + 1, 0, none⟩) 0 s.tasks] M 57 41
        have hk := keeps2 V (.cells #[.slice a n c, .int .i64 F, .int .i64 0, .int .i64 0, .bool true, .slice (some ⟨V.heap.size + 1, 0, none⟩) 0 s.tasks] 57) (.cells M 41)
        exact ⟨V.heap.size, V.heap.size + 1, rfl, HV.out.2, by have := HV.out.2; omega, ⟨p1, ⟨rfl, .inr ⟨_, s.tasks, M, rfl, Nat.zero_le _, p2, Nat.zero_le _, by have := HTV.out.2.2.2; unfold maxLen; omega, HTV.out.2.2.1, rfl⟩⟩⟩, (HV.out.1.trans hk (fun _ f _ => f)).andDrew⟩
    case rest =>
      obtain ⟨R, g, rfl, hR, hg, hrn, hkc⟩ := hcut
      have hrt := HRT.out wc hkc
      have hpl := fun wx (hx : Keeps None wc wx) => HPL.out R (.slice (some ⟨g, 0, none⟩) 0 s.tasks) wx hR (fun g' e => by simp [Value.ownBlock] at e; omega) (hkc.trans hx (fun _ f _ => f)) (hrn.kept hx (fun _ _ f => f))
      have HPL2 : Hid _ := hpl
      have HC : Hid (w.heap.size ≤ R ∧ w.heap.size ≤ g ∧ Keeps None w wc) := ⟨hR, hg, hkc⟩
      clear hpl HPL HRT hR hg hkc hrn f0 f1 hmk
      go_upto_region 6 with (first | (go_at_call 26; refine hrt.mono ?_; rintro _ w5 ⟨rfl, hk5⟩) | (go_at_call 25; refine (HPL2.out _ hk5).mono ?_; rintro _ w6 ⟨rfl, nv6, hr6, hk6, hm6⟩))
      have g5 : w6.cell? ⟨R, 5, none⟩ = some nv6 := (blk_cell hr6.blk 5).trans rfl
      have hkw : Keeps None w w6 := (HC.out.2.2.trans hk5 (fun _ f _ => f)).trans hk6 (fun i e hi => by rcases e with e | e; have := HC.out.1; omega; simp [Value.ownBlock] at e; have := HC.out.2.1; omega)
      have HQ : Hid (TreePost l zs (F : Int) w (.returned (.tuple #[nv6, .int .i64 0])) w6) := by
        refine ⟨nv6, by rw [HTV.out.2.1], hkw, fun g' e => ?_, fun h => by rw [HTV.out.2.1] at h; exact absurd rfl h, fun _ => by rw [HTV.out.1]; exact hr6.row⟩
        rcases hm6 with h | ⟨g2, e2, h2⟩
        · rw [h] at e
          simp [Value.ownBlock] at e
          have := HC.out.2.1
          omega
        · rw [e2] at e
          obtain rfl := Option.some.inj e
          have := hk5.size
          have := HC.out.2.2.size
          omega
      clear hr6 hk6 hm6 hkw hk5 hrt
      go_wp2_with fail
      go_ret2
      exact HQ.out
  · have heb : ((evalV l zs fuel).2 != 0) = true := by simpa using he0
    have HQ : Hid (∀ w', Keeps None w w' → TreePost l zs fuel w (.returned (.tuple #[.slice none 0 0, .int .i64 (evalV l zs fuel).2])) w') := fun w' hk => ⟨_, rfl, hk, fun g e => by simp [Value.ownBlock] at e, fun _ => rfl, fun h => absurd h he0⟩
    generalize (evalV l zs fuel).2 = er at *
    unfold valC at hev
    generalize (evalV l zs fuel).1 = ev at *
    clear hT hS hok hZ hk1 b1
    go_enter Tryd.func14, Tryd.ntmps14
    go_upto_region 1 with fail
    rw [← hW, ← hB]
    clear hW hB
    go_upto_region 2 with (go_at_call 10; refine hev.mono ?_; rintro _ w2 ⟨rfl, hk2⟩)
    have HK2 : Hid (Keeps None w w2) := HX.out.2.1.trans hk2 (fun _ f _ => f)
    clear hk2 hev
    go_wp2_with fail
    go_ret2
    exact HQ.out _ (HK2.out.andAlloc _)
end Go.Proofs.YtocfcdnbielbiaaDoor
/-! The statements' 'lives'. -/
namespace Go.Proofs.YtocfcdnbielbiaaDoor
set_option linter.unusedVariables false
set_option maxRecDepth 20000
open Go.RowKit Go.HeapKit Go.PlainOps

def liveF (c : Int) : Fn := ⟨0, 1, 0, [⟨0, 0, 0, 0, c⟩, ⟨9, 0, 0, 0, 0⟩]⟩
theorem live_check (c : Int) : checkV [liveF c] = (0, 0, 0) := by rfl
theorem live_eval (c : Int) : evalV [liveF c] [] 2 = (⟨c, 2, 1, 1, 2⟩, 0) := by
  have h1 : refusedV [liveF c] [] 2 = 0 := by
    unfold refusedV
    rw [live_check]
    rfl
  unfold evalV
  rw [h1]
  rfl
theorem live_tree (c : Int) : treeV [liveF c] [] 2 = [⟨-1, 0, 0, 2, 1, 0, c⟩] := by rfl
theorem live_ok (c : Int) (hc : okI c) : ∀ f ∈ [liveF c], f.Ok := by
  intro f hf
  simp at hf
  subst hf
  refine ⟨by simp [liveF, okI], by simp [liveF, okI], by simp [liveF, okI], fun i hi => ?_⟩
  simp [liveF] at hi
  rcases hi with rfl | rfl
  · exact ⟨by simp [okI], by simp [okI], by simp [okI], by simp [okI], hc⟩
  · exact ⟨by simp [okI], by simp [okI], by simp [okI], by simp [okI], by simp [okI]⟩
def liveC (c : Int) : Array Value := #[.int .i64 0, .int .i64 0, .int .i64 0, .int .i64 0, .int .i64 c, .int .i64 9, .int .i64 0, .int .i64 0, .int .i64 0, .int .i64 0]
theorem live_seen (w : World) (g h : Nat) (c : Int) (b1 : w.heap[g]? = some (.cells (liveC c) 46 (0, 0))) (b2 : w.heap[h]? = some (.cells #[.int .i64 0, .int .i64 1, .int .i64 0, .slice (some ⟨g, 0, none⟩) 2 2] 44 (0, 0))) : SeenF w (some ⟨h, 0, none⟩) 1 [liveF c] := by
  refine ⟨rfl, fun _ => ⟨_, 0, rfl, blk_lt b2, fun k f hf => ?_⟩⟩
  cases k with
  | succ k => simp at hf
  | zero =>
    simp at hf
    subst hf
    refine ⟨some ⟨g, 0, none⟩, 2, ⟨(cell_of_heap b2 0).trans rfl, (cell_of_heap b2 1).trans rfl, (cell_of_heap b2 2).trans rfl, (cell_of_heap b2 3).trans rfl, ⟨rfl, fun _ => ⟨_, 0, rfl, blk_lt b1, fun j i hi => ?_⟩⟩⟩⟩
    match j, hi with
    | 0, hi =>
      simp [liveF] at hi
      subst hi
      exact ⟨(cell_of_heap b1 0).trans rfl, (cell_of_heap b1 1).trans rfl, (cell_of_heap b1 2).trans rfl, (cell_of_heap b1 3).trans rfl, (cell_of_heap b1 4).trans rfl⟩
    | 1, hi =>
      simp [liveF] at hi
      subst hi
      exact ⟨(cell_of_heap b1 5).trans rfl, (cell_of_heap b1 6).trans rfl, (cell_of_heap b1 7).trans rfl, (cell_of_heap b1 8).trans rfl, (cell_of_heap b1 9).trans rfl⟩
    | j + 2, hi => simp [liveF] at hi
theorem seen_nil (w : World) : SeenA w none 0 [] := ⟨rfl, by omega, fun x hx => by simp at hx, fun h => by omega⟩
set_option maxHeartbeats 2000000 in
theorem lives_any (c : Int) (hc : okI c) (w : World) (hT : Tabs w) : Calls Tryd.prog 19 #[.int .i64 c] w fun e w' => e = .returned (.bool true) ∧ Keeps None w w' := by
  obtain ⟨B, hB⟩ : ∃ B, B = w.heap.size := ⟨_, rfl⟩
  obtain ⟨b1, b2, b3⟩ := three_boxes w (liveC c) #[.int .i64 0, .int .i64 1, .int .i64 0, .slice (some ⟨B, 0, none⟩) 2 2] #[.slice (some ⟨B + 1, 0, none⟩) 1 1] 46 44 24
  have hk3 : Keeps None w (((w.alloc (.cells (liveC c) 46)).alloc (.cells #[.int .i64 0, .int .i64 1, .int .i64 0, .slice (some ⟨B, 0, none⟩) 2 2] 44)).alloc (.cells #[.slice (some ⟨B + 1, 0, none⟩) 1 1] 24)) := (((Keeps.refl _ w).andAlloc _).andAlloc _).andAlloc _
  obtain ⟨W, hW⟩ : ∃ W, W = ((w.alloc (.cells (liveC c) 46)).alloc (.cells #[.int .i64 0, .int .i64 1, .int .i64 0, .slice (some ⟨B, 0, none⟩) 2 2] 44)).alloc (.cells #[.slice (some ⟨B + 1, 0, none⟩) 1 1] 24) := ⟨_, rfl⟩
  rw [← hW, ← hB] at b1 b2 b3
  rw [← hW] at hk3
  have hs := live_seen W B (B + 1) c b1 b2
  have hev := eval_any (some ⟨B + 1, 0, none⟩) 1 1 [liveF c] none 0 0 [] 2 W (hT.more hk3) hs (live_ok c hc) (seen_nil W) (by omega) (by simp [okI])
  have htr := fun wx (hx : Keeps None W wx) => tree_any (some ⟨B + 1, 0, none⟩) 1 1 [liveF c] none 0 0 [] 2 wx ((hT.more hk3).more hx) (hs.more hx) (live_ok c hc) (seen_nil wx) (by omega) (by simp [okI])
  rw [live_eval] at hev
  unfold valC at hev
  have HT : Hid (∀ wx, Keeps None W wx → Calls Tryd.prog 14 #[.agg #[.slice (some ⟨B + 1, 0, none⟩) 1 1], .slice none 0 0, .int .i64 2] wx fun e w' => ∃ g cap, e = .returned (.tuple #[.slice (some ⟨g, 0, none⟩) 1 cap, .int .i64 0]) ∧ Keeps None wx w' ∧ w'.cell? ⟨g, 0, none⟩ = some (.int .i64 (-1)) ∧ w'.cell? ⟨g, 1, none⟩ = some (.int .i64 0) ∧ w'.cell? ⟨g, 2, none⟩ = some (.int .i64 0) ∧ w'.cell? ⟨g, 3, none⟩ = some (.int .i64 2) ∧ w'.cell? ⟨g, 4, none⟩ = some (.int .i64 1) ∧ w'.cell? ⟨g, 5, none⟩ = some (.int .i64 0) ∧ w'.cell? ⟨g, 6, none⟩ = some (.int .i64 c)) := by
    intro wx hx
    refine (htr wx hx).mono ?_
    rintro e w' ⟨nv, he, hk, hg, _, hrow⟩
    have hrow := hrow (by rw [live_eval])
    rw [live_eval] at he
    rw [live_tree] at hrow
    rcases hrow.2 with ⟨_, h0⟩ | ⟨g, cap, cur, rfl, _, hb, hn, _, hcs, htk⟩
    · simp at h0
    · refine ⟨g, cap, he, hk, ?_⟩
      have hcell : ∀ j v, (ndVals [⟨-1, 0, 0, 2, 1, 0, c⟩])[j]? = some v → w'.cell? ⟨g, j, none⟩ = some v := by
        intro j v hv
        rw [blk_cell hb, ← Array.getElem?_toList]
        rw [← htk, List.getElem?_take] at hv
        split at hv
        · exact hv
        · cases hv
      exact ⟨hcell 0 _ rfl, hcell 1 _ rfl, hcell 2 _ rfl, hcell 3 _ rfl, hcell 4 _ rfl, hcell 5 _ rfl, hcell 6 _ rfl⟩
  have d0 : W.cell? ⟨B + 2, 0, none⟩ = some (.slice (some ⟨B + 1, 0, none⟩) 1 1) := (blk_cell b3 0).trans rfl
  have HX : Hid (Keeps None w W) := hk3
  unfold liveC at hW
  clear htr hs b1 b2 b3 hk3 hT hc
  go_enter Tryd.func19, Tryd.ntmps19
  rw [hB] at hW
  go_upto_region 2 with fail
  rw [← hW, ← hB]
  clear hW hB
  go_upto_region 3 with (go_at_call 10; refine hev.mono ?_; rintro _ w2 ⟨rfl, hk2⟩)
  have e0 := hk2.cell d0 (fun f => f)
  have hal := Keeps.alloc None w2 (.cells #[.int .i64 c, .int .i64 2, .int .i64 1, .int .i64 1, .int .i64 2] 28)
  have bV := heap_alloc_new w2 (.cells #[.int .i64 c, .int .i64 2, .int .i64 1, .int .i64 1, .int .i64 2] 28)
  obtain ⟨V, hV⟩ : ∃ V, V = w2.alloc (.cells #[.int .i64 c, .int .i64 2, .int .i64 1, .int .i64 1, .int .i64 2] 28) := ⟨_, rfl⟩
  obtain ⟨G, hG⟩ : ∃ G, G = w2.heap.size := ⟨_, rfl⟩
  rw [← hV] at hal bV
  rw [← hG] at bV
  rw [← hV, ← hG]
  have f0 := hal.cell e0 (fun f => f)
  have htr := HT.out V (hk2.trans hal (fun _ f _ => f))
  have HV : Hid (Keeps None w V ∧ V.heap[G]? = _) := ⟨(HX.out.trans hk2 (fun _ f _ => f)).trans hal (fun _ f _ => f), bV⟩
  clear hV hG hal bV hk2 e0 d0 hev HT
  go_upto_region 4 with (go_at_call 14; refine htr.mono ?_; rintro _ w4 ⟨g, cap, rfl, hk4, y0, y1, y2, y3, y4, y5, y6⟩)
  have b4 := blk_kept HV.out.2 hk4 (fun f => f)
  have x0 := (blk_cell b4 0).trans rfl
  have x1 := (blk_cell b4 1).trans rfl
  have x2 := (blk_cell b4 2).trans rfl
  have x3 := (blk_cell b4 3).trans rfl
  have x4 := (blk_cell b4 4).trans rfl
  have HK : Hid (Keeps None w w4) := HV.out.1.trans hk4 (fun _ f _ => f)
  clear b4 hk4 htr f0
  go_wp2_with fail
  go_ret
  exact ⟨rfl, HK.out⟩
end Go.Proofs.YtocfcdnbielbiaaDoor
