import Derived.Test.YtokfbagacehbgaaDoorSrStrip
/-! The sizes of a run that ends, plainly. -/
namespace Go.Proofs.YtokfbagacehbgaaDoor
set_option linter.unusedVariables false
set_option maxRecDepth 20000
open Go.RowKit Go.PlainOps

structure Sizes (s : Rn) (t : Tk) (sp : Int) (s' : Rn) : Prop where
  work : s'.fuel + s'.tasks + 1 ≤ s.fuel + s.tasks
  tasks : s.tasks ≤ s'.tasks
  depth : s.depth ≤ s'.depth
  few : s'.depth + s.tasks ≤ s.depth + s'.tasks
  more : s.tasks < s'.tasks → t.depth + 1 ≤ s'.depth
  span : t.span + 1 ≤ sp
  due : t.due ≤ sp
  deep : s'.depth ≤ imax s.depth (t.depth + sp - 1)
  alone : s'.tasks = s.tasks → t.due ≤ t.span → sp + s'.fuel = t.span + s.fuel
theorem along_next {fs : List Fn} {f : Fn} {at_ : Nat} {sl : List Int} {i : Ins} (hV : Valid fs f) (h : Along f (at_ : Int) sl) (hi : f.code[at_]? = some i) (turn : Bool) (h9 : i.kind ≠ 9) : Along f (stepAt i at_ turn) (stepSl i sl) := along_step hV h (by simpa using hi) turn h9
theorem loop_sizes {fs : List Fn} (hA : AllV fs) (L : Bool) : ∀ (g : Nat) (s : Rn) (t : Tk) (at_ : Nat) (f : Fn) (sl : List Int), s.In L → t.In fs s.fuel → fs[t.node.func.toNat]? = some f → Along f (at_ : Int) sl → ((1 : Int) ∈ sl ∨ t.due ≤ t.span) → t.depth ≤ s.depth →
    ∀ v sp s', loopV fs L g s t at_ = .done v sp s' → Sizes s t sp s'
  | 0, s, t, at_, f, sl, hs, ht, hf, hal, hpd, hdp, v, sp, s', h => by simp [loopV] at h
  | g + 1, s, t, at_, f, sl, hs, ht, hf, hal, hpd, hdp, v, sp, s', h => by
    have h0 : s.fuel ≠ 0 := fun h0 => by rw [loop_out h0] at h; cases h
    obtain ⟨m, hm⟩ : ∃ m, s.fuel = m + 1 := ⟨s.fuel - 1, by omega⟩
    have hpf : (payS s).fuel = m := by simp [payS, hm]
    have hpt : (payS s).tasks = s.tasks := rfl
    have hpd' : (payS s).depth = s.depth := rfl
    have hcf : codeOf fs t.node.func = f.code := code_of f hf
    have hV := hA.all f (List.mem_of_getElem? hf)
    have hok := hA.ok f (List.mem_of_getElem? hf)
    have hatl : at_ < f.code.length := by have := hal.a1; omega
    obtain ⟨i, hi⟩ : ∃ i, f.code[at_]? = some i := ⟨f.code[at_]'hatl, by simp⟩
    have hic : (codeOf fs t.node.func)[at_]? = some i := by rw [hcf]; exact hi
    have so := step_ok hV hi
    have hik := (hok.code i (List.mem_of_getElem? hi)).k
    have ht' := ht
    rw [hm] at ht'
    have tsp := ht.span
    have tdu := ht.due
    have hcases : i.kind = 3 ∨ i.kind = 4 ∨ i.kind = 5 ∨ i.kind = 6 ∨ i.kind = 9 ∨ (i.kind = 0 ∨ i.kind = 1 ∨ i.kind = 2 ∨ i.kind = 7 ∨ i.kind = 8) := by have := so.kind; omega
    have psp : (payT t).span = t.span + 1 := rfl
    have pdu : (payT t).due = t.due := rfl
    have pdp : (payT t).depth = t.depth := rfl
    have low : ∀ {t1 : Tk}, t1.span = t.span + 1 → t1.due = t.due → t1.depth = t.depth → Sizes (payS s) t1 sp s' → Sizes s t sp s' := by
      intro t1 e1 e2 e3 z
      obtain ⟨z1, z2, z3, z4, z5, z6, z7, z8, z9⟩ := z
      refine ⟨by omega, by omega, by omega, by omega, fun h => by have := z5 (by omega); omega, by omega, by omega, by rw [hpd', e3] at z8; exact z8, fun h1 h2 => ?_⟩
      have := z9 (by omega) (by omega)
      omega
    rcases hcases with hk | hk | hk | hk | hk | hk
    · rw [loop_jump h0 hic hk] at h
      have hn := along_next hV hal hi false (by omega)
      have e1 : stepAt i (at_ : Int) false = ((i.a.toNat : Nat) : Int) := by unfold stepAt; rw [if_pos hk]; have := (so.jump hk).1; omega
      have e2 : stepSl i sl = sl := by unfold stepSl; rw [if_neg (by omega), if_neg (by omega)]
      rw [e1, e2] at hn
      exact low (t1 := payT t) rfl rfl rfl (loop_sizes hA L g (payS s) (payT t) _ f sl hs.pay (by rw [hpf]; exact ht'.pay) hf hn (by rcases hpd with h | h; exact .inl h; exact .inr (by rw [psp, pdu]; omega)) hdp v sp s' h)
    · rw [loop_branch h0 hic hk] at h
      have e2 : stepSl i sl = sl := by unfold stepSl; rw [if_neg (by omega), if_neg (by omega)]
      have hn : Along f (((if t.regs.getD i.a.toNat 0 = 0 then at_ + 1 else i.b.toNat : Nat)) : Int) sl := by
        by_cases hx : t.regs.getD i.a.toNat 0 = 0
        · rw [if_pos hx]
          have hn := along_next hV hal hi false (by omega)
          rw [e2] at hn
          have e1 : stepAt i (at_ : Int) false = ((at_ + 1 : Nat) : Int) := by unfold stepAt; rw [if_neg (by omega), if_neg (by simp)]; omega
          rw [e1] at hn
          exact hn
        · rw [if_neg hx]
          have hn := along_next hV hal hi true (by omega)
          rw [e2] at hn
          have e1 : stepAt i (at_ : Int) true = ((i.b.toNat : Nat) : Int) := by unfold stepAt; rw [if_neg (by omega), if_pos ⟨hk, rfl⟩]; have := (so.branch hk).1; omega
          rw [e1] at hn
          exact hn
      exact low (t1 := payT t) rfl rfl rfl (loop_sizes hA L g (payS s) (payT t) _ f sl hs.pay (by rw [hpf]; exact ht'.pay) hf hn (by rcases hpd with h | h; exact .inl h; exact .inr (by rw [psp, pdu]; omega)) hdp v sp s' h)
    · rw [loop_spawn h0 hic hk] at h
      have hBg := child_begins hs ht h0 so hk
      cases hp : playV fs L g (payS s) (childV fs (payT t) i) with
      | gave e' => rw [hp] at h; cases h
      | done v1 sp1 s2 =>
        rw [hp] at h
        obtain ⟨d1, d2, d3, d4, d5, d6⟩ := child_done hA hBg rfl hp
        unfold playV at hp
        have hd : ¬ 4096 < (childV fs (payT t) i).depth := fun hd => by rw [if_pos hd] at hp; cases hp
        rw [if_neg hd] at hp
        have hti := hBg.tin hd
        obtain ⟨f2, hf2, _, _, hV2, _⟩ := hA.fn hti.func
        have hG2 := good_of hV2.shape hV2.code
        have cdp : (enterT (payS s) (childV fs (payT t) i)).depth = t.depth + 1 := rfl
        have cs1 : (enterS L (payS s) (childV fs (payT t) i)).depth = imax s.depth (t.depth + 1) := rfl
        have cs2 : (enterS L (payS s) (childV fs (payT t) i)).tasks = s.tasks + 1 := rfl
        have cs3 : (enterS L (payS s) (childV fs (payT t) i)).fuel = m := hpf
        have cs4 : (enterT (payS s) (childV fs (payT t) i)).span = 0 := rfl
        have cs5 : (enterT (payS s) (childV fs (payT t) i)).due = 0 := rfl
        have lm := le_imax s.depth (t.depth + 1)
        have zc := loop_sizes hA L g _ _ 0 f2 (List.replicate 8 0) (hBg.sin hd) hti hf2 (by simpa using along_start hG2 (valid_bounds hV2).2.2.1.1) (.inr (by rw [cs4, cs5]; omega)) (by rw [cdp, cs1]; omega) v1 sp1 s2 hp
        obtain ⟨c1, c2, c3, c4, c5, c6, c7, c8, c9⟩ := zc
        rw [cs2, cs3] at c1
        rw [cs2] at c2 c4 c5
        rw [cs1] at c3 c4 c8
        rw [cs4] at c6
        rw [cdp] at c8
        have hn := along_next hV hal hi false (by omega)
        have e1 : stepAt i (at_ : Int) false = ((at_ + 1 : Nat) : Int) := by unfold stepAt; rw [if_neg (by omega), if_neg (by simp)]; omega
        have e2 : stepSl i sl = sl.set i.a.toNat 1 := by unfold stepSl; rw [if_pos hk]
        rw [e1, e2] at hn
        have hmem : (1 : Int) ∈ sl.set i.a.toNat 1 := by
          have hl := hal.len
          have := (so.slot hk)
          exact List.mem_of_getElem? (i := i.a.toNat) (by rw [List.getElem?_set_self (by omega)])
        have gs1 : (gotT (spawnT (payT t)) i.a.toNat v1 sp1).span = t.span + 1 := rfl
        have gs2 : (gotT (spawnT (payT t)) i.a.toNat v1 sp1).due = imax t.due (t.span + 1 + sp1) := rfl
        have gs3 : (gotT (spawnT (payT t)) i.a.toNat v1 sp1).depth = t.depth := rfl
        have zr := loop_sizes hA L g s2 (gotT (spawnT (payT t)) i.a.toNat v1 sp1) (at_ + 1) f _ d5 (ht'.got d1 d2 (by omega)) hf hn (.inl hmem) (by rw [gs3]; omega) v sp s' h
        obtain ⟨r1, r2, r3, r4, r5, r6, r7, r8, r9⟩ := zr
        rw [gs1] at r6
        rw [gs2] at r7
        rw [gs3] at r5 r8
        have li := le_imax t.due (t.span + 1 + sp1)
        have ix : imax s.depth (t.depth + 1) ≤ s.depth + 1 := imax_le (by omega) (by omega)
        have hfin := le_imax s.depth (t.depth + sp - 1)
        have b1 : imax (imax s.depth (t.depth + 1)) (t.depth + 1 + sp1 - 1) ≤ imax s.depth (t.depth + sp - 1) := imax_le (imax_le (by omega) (by omega)) (by omega)
        exact ⟨by omega, by omega, by omega, by omega, fun _ => by omega, by omega, by omega, Int.le_trans r8 (imax_le (by omega) (by omega)), fun hh _ => by omega⟩
    · rw [loop_sync h0 hic hk] at h
      have hn := along_next hV hal hi false (by omega)
      have e1 : stepAt i (at_ : Int) false = ((at_ + 1 : Nat) : Int) := by unfold stepAt; rw [if_neg (by omega), if_neg (by simp)]; omega
      rw [e1] at hn
      have ws : (waitT (payT t)).span = imax (t.span + 1) (t.due + 1) := rfl
      have wd : (waitT (payT t)).due = t.due := rfl
      have wp : (waitT (payT t)).depth = t.depth := rfl
      have li := le_imax (t.span + 1) (t.due + 1)
      have z := loop_sizes hA L g (payS s) (waitT (payT t)) _ f _ hs.pay (by rw [hpf]; exact ht'.wait) hf hn (.inr (by rw [ws, wd]; omega)) hdp v sp s' h
      obtain ⟨z1, z2, z3, z4, z5, z6, z7, z8, z9⟩ := z
      rw [ws] at z6 z9
      rw [wd] at z7 z9
      rw [wp] at z5 z8
      refine ⟨by omega, by omega, by omega, by omega, fun h => z5 (by omega), by omega, by omega, by rw [hpd'] at z8; exact z8, fun h1 h2 => ?_⟩
      have e : imax (t.span + 1) (t.due + 1) = t.span + 1 := if_neg (by omega)
      rw [e] at z9
      have := z9 (by omega) (by omega)
      omega
    · rw [loop_ret h0 hic hk] at h
      injection h with h1 h2 h3
      have hcl := along_clean hV hal (by simpa using hi)
      have hnp : (1 : Int) ∉ sl := by
        unfold cleanV at hcl
        rw [if_neg (by omega), if_neg (by omega), if_pos hk, List.all_eq_true] at hcl
        intro hm1
        have := hcl 1 hm1
        simp at this
      have hdue : t.due ≤ t.span := by rcases hpd with h | h; exact absurd h hnp; exact h
      have k1 : s'.fuel = m := by rw [← h3]; exact hpf
      have k2 : s'.tasks = s.tasks := by rw [← h3]; rfl
      have k3 : s'.depth = s.depth := by rw [← h3]; rfl
      have := le_imax s.depth (t.depth + sp - 1)
      exact ⟨by omega, by omega, by omega, by omega, fun h => by omega, by omega, by omega, by omega, fun _ _ => by omega⟩
    · rw [loop_comp h0 hic hk] at h
      have en : (computeT (payT t) i).node = (payT t).node ∧ (computeT (payT t) i).span = (payT t).span ∧ (computeT (payT t) i).due = (payT t).due ∧ (computeT (payT t) i).depth = (payT t).depth := by
        unfold computeT setR
        repeat' split
        all_goals exact ⟨rfl, rfl, rfl, rfl⟩
      have hn := along_next hV hal hi false (by omega)
      have e1 : stepAt i (at_ : Int) false = ((at_ + 1 : Nat) : Int) := by unfold stepAt; rw [if_neg (by omega), if_neg (by simp)]; omega
      have e2 : stepSl i sl = sl := by unfold stepSl; rw [if_neg (by omega), if_neg (by omega)]
      rw [e1, e2] at hn
      exact low (by rw [en.2.1]; rfl) (by rw [en.2.2.1]; rfl) (by rw [en.2.2.2]; rfl) (loop_sizes hA L g (payS s) (computeT (payT t) i) _ f sl hs.pay (by rw [hpf]; exact ht'.pay.compute i hik) (by rw [en.1]; exact hf) hn (by rcases hpd with h | h; exact .inl h; exact .inr (by rw [en.2.1, en.2.2.1, psp, pdu]; omega)) (by rw [en.2.2.2]; exact hdp) v sp s' h)
/-- The sizes of a run that ends. -/
theorem eval_sizes {fs : List Fn} {zs : List Int} {fuel : Int} (hok : ∀ f ∈ fs, f.Ok) (hz : ∀ x ∈ zs, okI x) (h : (evalV fs zs fuel).2 = 0) :
    let v := (evalV fs zs fuel).1
    1 ≤ v.depth ∧ v.depth ≤ v.tasks ∧ v.tasks ≤ v.work ∧ v.work ≤ fuel ∧ v.depth ≤ v.span ∧ v.span ≤ v.work ∧ (v.tasks = 1 ↔ v.depth = 1) ∧ (v.tasks ≤ 1 → v.span = v.work) ∧ fuel ≤ 4194304 ∧ 0 ≤ fuel ∧ v.depth ≤ 4096 := by
  have hr0 : refusedV fs zs fuel = 0 := by
    by_cases h1 : refusedV fs zs fuel = 0
    · exact h1
    · unfold evalV at h
      rw [if_pos h1] at h
      exact absurd h h1
  obtain ⟨hcz, hpz, hf0, hf1⟩ := refused_zero hr0
  have hA := allV_of hcz hok
  obtain ⟨F, rfl⟩ := Int.eq_ofNat_of_zero_le hf0
  have hBg := root_begins hA false hz F (by omega)
  have hev : evalV fs zs (F : Int) = (match runV fs false zs F with
    | .gave e => (zeroVal, e)
    | .done v sp s => (⟨v, (F : Int) - s.fuel, s.tasks, s.depth, sp⟩, 0)) := by
    unfold evalV
    rw [if_neg (by simpa using hr0)]
    rfl
  cases hq : runV fs false zs F with
  | gave e =>
    rw [hq] at hev
    rw [hev] at h
    exact absurd h (gave_ne hA hBg hq)
  | done v sp s =>
    rw [hq] at hev
    rw [hev]
    obtain ⟨d1, d2, d3, d4, d5, d6⟩ := child_done hA hBg rfl hq
    unfold runV playV at hq
    have hd : ¬ 4096 < (rootT zs).depth := by simp [rootT]
    rw [if_neg hd] at hq
    have hti := hBg.tin hd
    obtain ⟨f, hf, _, _, hV, _⟩ := hA.fn hti.func
    have hG := good_of hV.shape hV.code
    have z := loop_sizes hA false (F + 1) _ _ 0 f (List.replicate 8 0) (hBg.sin hd) hti hf (by simpa using along_start hG (valid_bounds hV).2.2.1.1) (.inr (by show (0 : Int) ≤ 0; omega)) (by show (1 : Int) ≤ imax 0 1; decide) v sp s hq
    obtain ⟨z1, z2, z3, z4, z5, z6, z7, z8, z9⟩ := z
    have k1 : (enterS false (startS F) (rootT zs)).tasks = 1 := rfl
    have k2 : (enterS false (startS F) (rootT zs)).fuel = F := rfl
    have k3 : (enterS false (startS F) (rootT zs)).depth = 1 := rfl
    have k4 : (enterT (startS F) (rootT zs)).span = 0 := rfl
    have k5 : (enterT (startS F) (rootT zs)).due = 0 := rfl
    have k6 : (enterT (startS F) (rootT zs)).depth = 1 := rfl
    have k7 : (startS F).fuel = F := rfl
    rw [k1, k2] at z1
    rw [k1] at z2 z4 z5 z9
    rw [k3] at z3 z4 z8
    rw [k4] at z6 z9
    rw [k5] at z9
    rw [k6] at z5 z8
    rw [k2] at z9
    rw [k7] at d3 d4
    have l8 : imax (1 : Int) (1 + sp - 1) ≤ sp := imax_le (by omega) (by omega)
    have d5d := d5.depth
    show 1 ≤ s.depth ∧ s.depth ≤ (s.tasks : Int) ∧ (s.tasks : Int) ≤ (F : Int) - s.fuel ∧ (F : Int) - s.fuel ≤ F ∧ s.depth ≤ sp ∧ sp ≤ (F : Int) - s.fuel ∧ ((s.tasks : Int) = 1 ↔ s.depth = 1) ∧ ((s.tasks : Int) ≤ 1 → sp = (F : Int) - s.fuel) ∧ (F : Int) ≤ 4194304 ∧ (0 : Int) ≤ F ∧ s.depth ≤ 4096
    refine ⟨by omega, by omega, by omega, by omega, by omega, by omega, ⟨fun e => by omega, fun e => ?_⟩, fun e => ?_, by omega, by omega, by omega⟩
    · by_cases ht : 1 < s.tasks
      · have := z5 ht
        omega
      · omega
    · have := z9 (by omega) (by omega)
      omega
theorem eval_not {fs : List Fn} {zs : List Int} {fuel : Int} (h : (evalV fs zs fuel).2 ≠ 0) : (evalV fs zs fuel).1 = zeroVal := by
  unfold evalV at h ⊢
  by_cases h1 : refusedV fs zs fuel ≠ 0
  · rw [if_pos h1]
  · rw [if_neg h1] at h ⊢
    cases hq : runV fs false zs fuel.toNat with
    | gave e => rfl
    | done v sp s => rw [hq] at h; exact absurd rfl h
end Go.Proofs.YtokfbagacehbgaaDoor
