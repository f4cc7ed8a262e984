import Derived.Test.YtiphikoaohhpeaaDoorPkAT
import Derived.Test.YtiphikoaohhpeaaDoorPkAU
import Derived.Laws.StructEq
/-! The sizes of a run that ends, plainly. -/
namespace Go.Proofs.YtiphikoaohhpeaaDoor
set_option linter.unusedVariables false
set_option maxRecDepth 20000
open Go.RowKit Go.PlainOps

structure Sizes (s : Rn) (t : Tk) (sp : Int) (s' : Rn) : Prop where
  work : s'.fuel + s'.tasks + 1 ≤ s.fuel + s.tasks
  tasks : s.tasks ≤ s'.tasks
  depth : s.depth ≤ s'.depth
  few : s'.depth + s.tasks ≤ s.depth + s'.tasks
  more : s.tasks < s'.tasks → t.depth + 1 ≤ s'.depth
  span : t.span + 1 ≤ sp
  due : t.due ≤ sp
  deep : s'.depth ≤ imax s.depth (t.depth + sp - 1)
  alone : s'.tasks = s.tasks → t.due ≤ t.span → sp + s'.fuel = t.span + s.fuel
theorem along_next {fs : List Fn} {f : Fn} {at_ : Nat} {sl : List Int} {i : Ins} (hV : Valid fs f) (h : Along f (at_ : Int) sl) (hi : f.code[at_]? = some i) (turn : Bool) (h9 : i.kind ≠ 9) : Along f (stepAt i at_ turn) (stepSl i sl) := along_step hV h (by simpa using hi) turn h9
theorem loop_sizes {fs : List Fn} (hA : AllV fs) (L : Bool) : ∀ (g : Nat) (s : Rn) (t : Tk) (at_ : Nat) (f : Fn) (sl : List Int), s.In L → t.In fs s.fuel → fs[t.node.func.toNat]? = some f → Along f (at_ : Int) sl → ((1 : Int) ∈ sl ∨ t.due ≤ t.span) → t.depth ≤ s.depth →
    ∀ v sp s', loopV fs L g s t at_ = .done v sp s' → Sizes s t sp s'
  | 0, s, t, at_, f, sl, hs, ht, hf, hal, hpd, hdp, v, sp, s', h => by simp [loopV] at h
  | g + 1, s, t, at_, f, sl, hs, ht, hf, hal, hpd, hdp, v, sp, s', h => by
    have h0 : s.fuel ≠ 0 := fun h0 => by rw [loop_out h0] at h; cases h
    obtain ⟨m, hm⟩ : ∃ m, s.fuel = m + 1 := ⟨s.fuel - 1, by omega⟩
    have hpf : (payS s).fuel = m := by simp [payS, hm]
    have hpt : (payS s).tasks = s.tasks := rfl
    have hpd' : (payS s).depth = s.depth := rfl
    have hcf : codeOf fs t.node.func = f.code := code_of f hf
    have hV := hA.all f (List.mem_of_getElem? hf)
    have hok := hA.ok f (List.mem_of_getElem? hf)
    have hatl : at_ < f.code.length := by have := hal.a1; omega
    obtain ⟨i, hi⟩ : ∃ i, f.code[at_]? = some i := ⟨f.code[at_]'hatl, by simp⟩
    have hic : (codeOf fs t.node.func)[at_]? = some i := by rw [hcf]; exact hi
    have so := step_ok hV hi
    have hik := (hok.code i (List.mem_of_getElem? hi)).k
    have ht' := ht
    rw [hm] at ht'
    have tsp := ht.span
    have tdu := ht.due
    have hcases : i.kind = 3 ∨ i.kind = 4 ∨ i.kind = 5 ∨ i.kind = 6 ∨ i.kind = 9 ∨ (i.kind = 0 ∨ i.kind = 1 ∨ i.kind = 2 ∨ i.kind = 7 ∨ i.kind = 8) := by have := so.kind; omega
    have psp : (payT t).span = t.span + 1 := rfl
    have pdu : (payT t).due = t.due := rfl
    have pdp : (payT t).depth = t.depth := rfl
    have low : ∀ {t1 : Tk}, t1.span = t.span + 1 → t1.due = t.due → t1.depth = t.depth → Sizes (payS s) t1 sp s' → Sizes s t sp s' := by
      intro t1 e1 e2 e3 z
      obtain ⟨z1, z2, z3, z4, z5, z6, z7, z8, z9⟩ := z
      refine ⟨by omega, by omega, by omega, by omega, fun h => by have := z5 (by omega); omega, by omega, by omega, by rw [hpd', e3] at z8; exact z8, fun h1 h2 => ?_⟩
      have := z9 (by omega) (by omega)
      omega
    rcases hcases with hk | hk | hk | hk | hk | hk
    · rw [loop_jump h0 hic hk] at h
      have hn := along_next hV hal hi false (by omega)
      have e1 : stepAt i (at_ : Int) false = ((i.a.toNat : Nat) : Int) := by unfold stepAt; rw [if_pos hk]; have := (so.jump hk).1; omega
      have e2 : stepSl i sl = sl := by unfold stepSl; rw [if_neg (by omega), if_neg (by omega)]
      rw [e1, e2] at hn
      exact low (t1 := payT t) rfl rfl rfl (loop_sizes hA L g (payS s) (payT t) _ f sl hs.pay (by rw [hpf]; exact ht'.pay) hf hn (by rcases hpd with h | h; exact .inl h; exact .inr (by rw [psp, pdu]; omega)) hdp v sp s' h)
    · rw [loop_branch h0 hic hk] at h
      have e2 : stepSl i sl = sl := by unfold stepSl; rw [if_neg (by omega), if_neg (by omega)]
      have hn : Along f (((if t.regs.getD i.a.toNat 0 = 0 then at_ + 1 else i.b.toNat : Nat)) : Int) sl := by
        by_cases hx : t.regs.getD i.a.toNat 0 = 0
        · rw [if_pos hx]
          have hn := along_next hV hal hi false (by omega)
          rw [e2] at hn
          have e1 : stepAt i (at_ : Int) false = ((at_ + 1 : Nat) : Int) := by unfold stepAt; rw [if_neg (by omega), if_neg (by simp)]; omega
          rw [e1] at hn
          exact hn
        · rw [if_neg hx]
          have hn := along_next hV hal hi true (by omega)
          rw [e2] at hn
          have e1 : stepAt i (at_ : Int) true = ((i.b.toNat : Nat) : Int) := by unfold stepAt; rw [if_neg (by omega), if_pos ⟨hk, rfl⟩]; have := (so.branch hk).1; omega
          rw [e1] at hn
          exact hn
      exact low (t1 := payT t) rfl rfl rfl (loop_sizes hA L g (payS s) (payT t) _ f sl hs.pay (by rw [hpf]; exact ht'.pay) hf hn (by rcases hpd with h | h; exact .inl h; exact .inr (by rw [psp, pdu]; omega)) hdp v sp s' h)
    · rw [loop_spawn h0 hic hk] at h
      have hBg := child_begins hs ht h0 so hk
      cases hp : playV fs L g (payS s) (childV fs (payT t) i) with
      | gave e' => rw [hp] at h; cases h
      | done v1 sp1 s2 =>
        rw [hp] at h
        obtain ⟨d1, d2, d3, d4, d5, d6⟩ := child_done hA hBg rfl hp
        unfold playV at hp
        have hd : ¬ 4096 < (childV fs (payT t) i).depth := fun hd => by rw [if_pos hd] at hp; cases hp
        rw [if_neg hd] at hp
        have hti := hBg.tin hd
        obtain ⟨f2, hf2, _, _, hV2, _⟩ := hA.fn hti.func
        have hG2 := good_of hV2.shape hV2.code
        have cdp : (enterT (payS s) (childV fs (payT t) i)).depth = t.depth + 1 := rfl
        have cs1 : (enterS L (payS s) (childV fs (payT t) i)).depth = imax s.depth (t.depth + 1) := rfl
        have cs2 : (enterS L (payS s) (childV fs (payT t) i)).tasks = s.tasks + 1 := rfl
        have cs3 : (enterS L (payS s) (childV fs (payT t) i)).fuel = m := hpf
        have cs4 : (enterT (payS s) (childV fs (payT t) i)).span = 0 := rfl
        have cs5 : (enterT (payS s) (childV fs (payT t) i)).due = 0 := rfl
        have lm := le_imax s.depth (t.depth + 1)
        have zc := loop_sizes hA L g _ _ 0 f2 (List.replicate 8 0) (hBg.sin hd) hti hf2 (by simpa using along_start hG2 (valid_bounds hV2).2.2.1.1) (.inr (by rw [cs4, cs5]; omega)) (by rw [cdp, cs1]; omega) v1 sp1 s2 hp
        obtain ⟨c1, c2, c3, c4, c5, c6, c7, c8, c9⟩ := zc
        rw [cs2, cs3] at c1
        rw [cs2] at c2 c4 c5
        rw [cs1] at c3 c4 c8
        rw [cs4] at c6
        rw [cdp] at c8
        have hn := along_next hV hal hi false (by omega)
        have e1 : stepAt i (at_ : Int) false = ((at_ + 1 : Nat) : Int) := by unfold stepAt; rw [if_neg (by omega), if_neg (by simp)]; omega
        have e2 : stepSl i sl = sl.set i.a.toNat 1 := by unfold stepSl; rw [if_pos hk]
        rw [e1, e2] at hn
        have hmem : (1 : Int) ∈ sl.set i.a.toNat 1 := by
          have hl := hal.len
          have := (so.slot hk)
          exact List.mem_of_getElem? (i := i.a.toNat) (by rw [List.getElem?_set_self (by omega)])
        have gs1 : (gotT (spawnT (payT t)) i.a.toNat v1 sp1).span = t.span + 1 := rfl
        have gs2 : (gotT (spawnT (payT t)) i.a.toNat v1 sp1).due = imax t.due (t.span + 1 + sp1) := rfl
        have gs3 : (gotT (spawnT (payT t)) i.a.toNat v1 sp1).depth = t.depth := rfl
        have zr := loop_sizes hA L g s2 (gotT (spawnT (payT t)) i.a.toNat v1 sp1) (at_ + 1) f _ d5 (ht'.got d1 d2 (by omega)) hf hn (.inl hmem) (by rw [gs3]; omega) v sp s' h
        obtain ⟨r1, r2, r3, r4, r5, r6, r7, r8, r9⟩ := zr
        rw [gs1] at r6
        rw [gs2] at r7
        rw [gs3] at r5 r8
        have li := le_imax t.due (t.span + 1 + sp1)
        have ix : imax s.depth (t.depth + 1) ≤ s.depth + 1 := imax_le (by omega) (by omega)
        have hfin := le_imax s.depth (t.depth + sp - 1)
        have b1 : imax (imax s.depth (t.depth + 1)) (t.depth + 1 + sp1 - 1) ≤ imax s.depth (t.depth + sp - 1) := imax_le (imax_le (by omega) (by omega)) (by omega)
        exact ⟨by omega, by omega, by omega, by omega, fun _ => by omega, by omega, by omega, Int.le_trans r8 (imax_le (by omega) (by omega)), fun hh _ => by omega⟩
    · rw [loop_sync h0 hic hk] at h
      have hn := along_next hV hal hi false (by omega)
      have e1 : stepAt i (at_ : Int) false = ((at_ + 1 : Nat) : Int) := by unfold stepAt; rw [if_neg (by omega), if_neg (by simp)]; omega
      rw [e1] at hn
      have ws : (waitT (payT t)).span = imax (t.span + 1) (t.due + 1) := rfl
      have wd : (waitT (payT t)).due = t.due := rfl
      have wp : (waitT (payT t)).depth = t.depth := rfl
      have li := le_imax (t.span + 1) (t.due + 1)
      have z := loop_sizes hA L g (payS s) (waitT (payT t)) _ f _ hs.pay (by rw [hpf]; exact ht'.wait) hf hn (.inr (by rw [ws, wd]; omega)) hdp v sp s' h
      obtain ⟨z1, z2, z3, z4, z5, z6, z7, z8, z9⟩ := z
      rw [ws] at z6 z9
      rw [wd] at z7 z9
      rw [wp] at z5 z8
      refine ⟨by omega, by omega, by omega, by omega, fun h => z5 (by omega), by omega, by omega, by rw [hpd'] at z8; exact z8, fun h1 h2 => ?_⟩
      have e : imax (t.span + 1) (t.due + 1) = t.span + 1 := if_neg (by omega)
      rw [e] at z9
      have := z9 (by omega) (by omega)
      omega
    · rw [loop_ret h0 hic hk] at h
      injection h with h1 h2 h3
      have hcl := along_clean hV hal (by simpa using hi)
      have hnp : (1 : Int) ∉ sl := by
        unfold cleanV at hcl
        rw [if_neg (by omega), if_neg (by omega), if_pos hk, List.all_eq_true] at hcl
        intro hm1
        have := hcl 1 hm1
        simp at this
      have hdue : t.due ≤ t.span := by rcases hpd with h | h; exact absurd h hnp; exact h
      have k1 : s'.fuel = m := by rw [← h3]; exact hpf
      have k2 : s'.tasks = s.tasks := by rw [← h3]; rfl
      have k3 : s'.depth = s.depth := by rw [← h3]; rfl
      have := le_imax s.depth (t.depth + sp - 1)
      exact ⟨by omega, by omega, by omega, by omega, fun h => by omega, by omega, by omega, by omega, fun _ _ => by omega⟩
    · rw [loop_comp h0 hic hk] at h
      have en : (computeT (payT t) i).node = (payT t).node ∧ (computeT (payT t) i).span = (payT t).span ∧ (computeT (payT t) i).due = (payT t).due ∧ (computeT (payT t) i).depth = (payT t).depth := by
        unfold computeT setR
        repeat' split
        all_goals exact ⟨rfl, rfl, rfl, rfl⟩
      have hn := along_next hV hal hi false (by omega)
      have e1 : stepAt i (at_ : Int) false = ((at_ + 1 : Nat) : Int) := by unfold stepAt; rw [if_neg (by omega), if_neg (by simp)]; omega
      have e2 : stepSl i sl = sl := by unfold stepSl; rw [if_neg (by omega), if_neg (by omega)]
      rw [e1, e2] at hn
      exact low (by rw [en.2.1]; rfl) (by rw [en.2.2.1]; rfl) (by rw [en.2.2.2]; rfl) (loop_sizes hA L g (payS s) (computeT (payT t) i) _ f sl hs.pay (by rw [hpf]; exact ht'.pay.compute i hik) (by rw [en.1]; exact hf) hn (by rcases hpd with h | h; exact .inl h; exact .inr (by rw [en.2.1, en.2.2.1, psp, pdu]; omega)) (by rw [en.2.2.2]; exact hdp) v sp s' h)
/-- The sizes of a run that ends. -/
theorem eval_sizes {fs : List Fn} {zs : List Int} {fuel : Int} (hok : ∀ f ∈ fs, f.Ok) (hz : ∀ x ∈ zs, okI x) (h : (evalV fs zs fuel).2 = 0) :
    let v := (evalV fs zs fuel).1
    1 ≤ v.depth ∧ v.depth ≤ v.tasks ∧ v.tasks ≤ v.work ∧ v.work ≤ fuel ∧ v.depth ≤ v.span ∧ v.span ≤ v.work ∧ (v.tasks = 1 ↔ v.depth = 1) ∧ (v.tasks ≤ 1 → v.span = v.work) ∧ fuel ≤ 4194304 ∧ 0 ≤ fuel ∧ v.depth ≤ 4096 := by
  have hr0 : refusedV fs zs fuel = 0 := by
    by_cases h1 : refusedV fs zs fuel = 0
    · exact h1
    · unfold evalV at h
      rw [if_pos h1] at h
      exact absurd h h1
  obtain ⟨hcz, hpz, hf0, hf1⟩ := refused_zero hr0
  have hA := allV_of hcz hok
  obtain ⟨F, rfl⟩ := Int.eq_ofNat_of_zero_le hf0
  have hBg := root_begins hA false hz F (by omega)
  have hev : evalV fs zs (F : Int) = (match runV fs false zs F with
    | .gave e => (zeroVal, e)
    | .done v sp s => (⟨v, (F : Int) - s.fuel, s.tasks, s.depth, sp⟩, 0)) := by
    unfold evalV
    rw [if_neg (by simpa using hr0)]
    rfl
  cases hq : runV fs false zs F with
  | gave e =>
    rw [hq] at hev
    rw [hev] at h
    exact absurd h (gave_ne hA hBg hq)
  | done v sp s =>
    rw [hq] at hev
    rw [hev]
    obtain ⟨d1, d2, d3, d4, d5, d6⟩ := child_done hA hBg rfl hq
    unfold runV playV at hq
    have hd : ¬ 4096 < (rootT zs).depth := by simp [rootT]
    rw [if_neg hd] at hq
    have hti := hBg.tin hd
    obtain ⟨f, hf, _, _, hV, _⟩ := hA.fn hti.func
    have hG := good_of hV.shape hV.code
    have z := loop_sizes hA false (F + 1) _ _ 0 f (List.replicate 8 0) (hBg.sin hd) hti hf (by simpa using along_start hG (valid_bounds hV).2.2.1.1) (.inr (by show (0 : Int) ≤ 0; omega)) (by show (1 : Int) ≤ imax 0 1; decide) v sp s hq
    obtain ⟨z1, z2, z3, z4, z5, z6, z7, z8, z9⟩ := z
    have k1 : (enterS false (startS F) (rootT zs)).tasks = 1 := rfl
    have k2 : (enterS false (startS F) (rootT zs)).fuel = F := rfl
    have k3 : (enterS false (startS F) (rootT zs)).depth = 1 := rfl
    have k4 : (enterT (startS F) (rootT zs)).span = 0 := rfl
    have k5 : (enterT (startS F) (rootT zs)).due = 0 := rfl
    have k6 : (enterT (startS F) (rootT zs)).depth = 1 := rfl
    have k7 : (startS F).fuel = F := rfl
    rw [k1, k2] at z1
    rw [k1] at z2 z4 z5 z9
    rw [k3] at z3 z4 z8
    rw [k4] at z6 z9
    rw [k5] at z9
    rw [k6] at z5 z8
    rw [k2] at z9
    rw [k7] at d3 d4
    have l8 : imax (1 : Int) (1 + sp - 1) ≤ sp := imax_le (by omega) (by omega)
    have d5d := d5.depth
    show 1 ≤ s.depth ∧ s.depth ≤ (s.tasks : Int) ∧ (s.tasks : Int) ≤ (F : Int) - s.fuel ∧ (F : Int) - s.fuel ≤ F ∧ s.depth ≤ sp ∧ sp ≤ (F : Int) - s.fuel ∧ ((s.tasks : Int) = 1 ↔ s.depth = 1) ∧ ((s.tasks : Int) ≤ 1 → sp = (F : Int) - s.fuel) ∧ (F : Int) ≤ 4194304 ∧ (0 : Int) ≤ F ∧ s.depth ≤ 4096
    refine ⟨by omega, by omega, by omega, by omega, by omega, by omega, ⟨fun e => by omega, fun e => ?_⟩, fun e => ?_, by omega, by omega, by omega⟩
    · by_cases ht : 1 < s.tasks
      · have := z5 ht
        omega
      · omega
    · have := z9 (by omega) (by omega)
      omega
theorem eval_not {fs : List Fn} {zs : List Int} {fuel : Int} (h : (evalV fs zs fuel).2 ≠ 0) : (evalV fs zs fuel).1 = zeroVal := by
  unfold evalV at h ⊢
  by_cases h1 : refusedV fs zs fuel ≠ 0
  · rw [if_pos h1]
  · rw [if_neg h1] at h ⊢
    cases hq : runV fs false zs fuel.toNat with
    | gave e => rfl
    | done v sp s => rw [hq] at h; exact absurd rfl h
end Go.Proofs.YtiphikoaohhpeaaDoor
/-! SerialShape: the walk. -/
namespace Go.Proofs.YtiphikoaohhpeaaDoor
set_option linter.unusedVariables false
set_option maxRecDepth 20000
open Go.RowKit Go.HeapKit Go.PlainOps

theorem Grows.func {fs : List Fn} (hA : AllV fs) {K : List Ky} {D : List Int} (h : Grows fs K D) : ∀ (i : Nat) (x : Ky), K[i]? = some x → 0 ≤ x.func ∧ x.func < fs.length := by
  induction h with
  | one => intro i x hx; cases i with
    | zero => simp at hx; subst hx; have := hA.len; exact ⟨Int.le_refl _, by show (0 : Int) < _; omega⟩
    | succ i => simp at hx
  | @more K D x d p y hg hn ih =>
    intro i z hz
    by_cases hi : i < K.length
    · rw [List.getElem?_append_left hi] at hz
      exact ih i z hz
    · rw [List.getElem?_append_right (by omega)] at hz
      have hi2 : i - K.length = 0 := by
        have := (List.getElem?_eq_some_iff.1 hz).1
        simp at this
        omega
      rw [hi2] at hz
      simp at hz
      subst hz
      obtain ⟨ins, hm, h5, hb⟩ := hn.spw
      obtain ⟨f, hf, _, hc, hV, _⟩ := hA.fn (ih p y hn.at_)
      rw [hc] at hm
      obtain ⟨j, hj, e⟩ := List.getElem_of_mem hm
      have so := step_ok hV (at_ := j) (i := ins) (by rw [List.getElem?_eq_getElem hj, e])
      rw [← hb]
      exact so.fn h5
theorem Grows.spawns {fs : List Fn} (hA : AllV fs) {K : List Ky} {D : List Int} (h : Grows fs K D) {p : Nat} {y : Ky} (hy : K[p]? = some y) {g : Int} (hs : spawnsK fs y.func g) : ∃ (F : Nat) (fn : Fn) (j : Nat) (i : Ins), y.func = (F : Int) ∧ fs[F]? = some fn ∧ fn.code[j]? = some i ∧ i.kind = 5 ∧ i.b = g ∧ fn.code.length ≤ 4611686018427387904 := by
  obtain ⟨ins, hm, h5, hb⟩ := hs
  have hr := h.func hA p y hy
  obtain ⟨f, hf, _, hc, hV, _⟩ := hA.fn hr
  rw [hc] at hm
  obtain ⟨j, hj, e⟩ := List.getElem_of_mem hm
  exact ⟨y.func.toNat, f, j, ins, by omega, hf, by rw [List.getElem?_eq_getElem hj, e], h5, hb, by have := (valid_bounds hV).2.2.2.2; omega⟩
theorem eqVal6 (a b c d e : Int) (w : World) : (binOp .eql 27 (.agg #[.int .i64 a, .int .i64 b, .int .i64 c, .int .i64 d, .int .i64 e]) (.agg #[.int .i64 a, .int .i64 b, .int .i64 c, .int .i64 d, .int .i64 e])).run Tryd.prog w = .ok (.bool true) w := by
  have u3 := Tryd.underlying3
  have a3 := Tryd.isAgg3
  have z3 := Tryd.sizeOf3
  have u2 := Tryd.underlying2
  have a2 := Tryd.isAgg2
  have z2 := Tryd.sizeOf2
  have hS : Tryd.prog.underlying 27 = some (.struct (Tryd.prog.fieldsOf 27)) := by kernel_rfl
  have hp : Tryd.prog.stoodInHeld 27 = false := by kernel_rfl
  rw [run_eql_struct, show (10000 : Nat) = 9999 + 1 from rfl, run_equalIn_agg w 9999 27 _ _ hS hp]
  simp only [Program.fieldsOf, Tryd.underlying27]
  go_simp
theorem isNil (a : Option Addr) (n c : Nat) (w : World) : (binOp .eql 37 (.slice a n c) (.slice none 0 0)).run Tryd.prog w = .ok (.bool a.isNone) w := by
  simp only [binOp]
  simp [run_equal_slice_nil w 37 3 a n c Tryd.underlying37]
def keyCells (w : World) (b : Nat) (L : List Nd) : Prop := ∀ k x, L[k]? = some x → ∀ j y, x.l[j]? = some y → w.cell? ⟨b, k * 7 + j, none⟩ = some (.int .i64 y)
set_option maxHeartbeats 8000000 in
theorem shape_walk (a : Option Addr) (n c : Nat) (l : List Fn) (aa : Option Addr) (an ac : Nat) (zs : List Int) (fuel : Int) (w : World) (hT : Tabs w) (hS : SeenF w a n l) (hok : ∀ f ∈ l, f.Ok) (hZ : SeenA w aa an zs) (hfu : okI fuel) :
    Calls Tryd.prog 3 #[.agg #[.slice a n c], .slice aa an ac, .int .i64 fuel] w fun e w' => e = .returned (.bool true) ∧ Keeps None w w' := by
  obtain ⟨B, hB⟩ : ∃ B, B = w.heap.size := ⟨_, rfl⟩
  have b1 := heap_alloc_new w (.cells #[.slice a n c] 24)
  have hk1 := Keeps.alloc None w (.cells #[.slice a n c] 24)
  obtain ⟨W, hW⟩ : ∃ W, W = w.alloc (.cells #[.slice a n c] 24) := ⟨_, rfl⟩
  rw [← hW, ← hB] at b1
  rw [← hW] at hk1
  have hev := eval_any a n c l aa an ac zs fuel W (hT.more hk1) (hS.more hk1) hok (hZ.more hk1) hZ.most hfu
  have d0 : W.cell? ⟨B, 0, none⟩ = some (.slice a n c) := (blk_cell b1 0).trans rfl
  have hlv := fun wx (hx : Keeps None w wx) => lives_any fuel hfu wx (hT.more hx)
  have htr := fun wx (hx : Keeps None w wx) => tree_any a n c l aa an ac zs fuel wx (hT.more hx) (hS.more hx) hok (hZ.more hx) hZ.most hfu
  have HLV : Hid _ := hlv
  have HTR : Hid _ := htr
  have HX : Hid (Keeps None w W ∧ W.cell? ⟨B, 0, none⟩ = some (.slice a n c) ∧ SeenF w a n l) := ⟨hk1, d0, hS⟩
  by_cases he0 : (evalV l zs fuel).2 = 0
  · obtain ⟨D, hE⟩ := eval_tree hok hZ.ok he0
    obtain ⟨L, hL⟩ : ∃ L, L = treeV l zs fuel := ⟨_, rfl⟩
    have HL : Hid (∀ (wx : World), Keeps None w wx → Calls Tryd.prog 5 #[.agg #[.slice a n c], .slice aa an ac, .int .i64 fuel] wx fun e w' => ∃ ta tc, e = .returned (.tuple #[.slice ta L.length tc, .int .i64 0]) ∧ Keeps None wx w' ∧ SeenD w' ta L.length L) := fun wx hx => (HTR.out wx hx).mono fun e w' h => by
      obtain ⟨nv, he, hk, _, _, h2⟩ := h
      rw [he0] at he
      have h3 := h2 he0
      rw [← hL] at h3
      obtain ⟨ta, tc, rfl, hs⟩ := row_seenD h3
      exact ⟨ta, tc, he, hk, hs⟩
    rw [← hL] at hE
    rw [he0] at hev
    unfold valC at hev
    generalize (evalV l zs fuel).1 = V at *
    obtain ⟨v, wk, tk, dp, sp⟩ := V
    obtain ⟨N, hN⟩ : ∃ N, N = L.length := ⟨_, rfl⟩
    have etk : tk = (N : Int) := by rw [hN]; exact hE.tasks
    have edp : dp = maxD D := hE.dep
    have ewk : wk = sumW L := hE.sum.symm
    have hwm : wk ≤ 4194304 := hE.most
    obtain ⟨y0, hy0, hyv⟩ := hE.v
    have hyv' : y0.v = v := hyv
    have hN1 : 1 ≤ N := by have := hE.good.len; simp [keys] at this; omega
    have hNb : N ≤ 8388608 := by have := hE.len; omega
    have hnl : n ≤ 32 := by have := hE.all.len; have := hS.len; omega
    rw [← hN] at HL
    have HE : Hid (Ends l L ⟨v, wk, tk, dp, sp⟩ D ∧ N = L.length ∧ wk = sumW L ∧ dp = maxD D ∧ L[0]? = some y0 ∧ y0.v = v) := ⟨hE, hN, ewk, edp, hy0, hyv'⟩
    simp only at hev
    subst etk
    clear hT hS hok hZ hk1 b1 hlv htr HTR he0 hfu hL hE hN edp ewk hy0 hyv hyv'
    go_enter Tryd.func3, Tryd.ntmps3
    go_upto_region 1 with fail
    rw [← hW, ← hB]
    clear hW hB
    go_upto_region 2 with (go_at_call 4; refine hev.mono ?_; rintro _ w2 ⟨rfl, hk2⟩)
    have bV := heap_alloc_new w2 (.cells #[.int .i64 v, .int .i64 wk, .int .i64 N, .int .i64 dp, .int .i64 sp] 27)
    have hal := Keeps.alloc None w2 (.cells #[.int .i64 v, .int .i64 wk, .int .i64 N, .int .i64 dp, .int .i64 sp] 27)
    obtain ⟨U, hU⟩ : ∃ U, U = w2.alloc (.cells #[.int .i64 v, .int .i64 wk, .int .i64 N, .int .i64 dp, .int .i64 sp] 27) := ⟨_, rfl⟩
    obtain ⟨G, hG⟩ : ∃ G, G = w2.heap.size := ⟨_, rfl⟩
    rw [← hU] at hal bV
    rw [← hG] at bV
    rw [← hU, ← hG]
    have kU : Keeps None W U := hk2.trans hal (fun _ f _ => f)
    have dU := kU.cell d0 (fun f => f)
    have HU : Hid (Keeps None w U ∧ U.heap[G]? = some (.cells #[.int .i64 v, .int .i64 wk, .int .i64 N, .int .i64 dp, .int .i64 sp] 27 (0, 0)) ∧ Keeps None W U) := ⟨HX.out.1.trans kU (fun _ f _ => f), bV, kU⟩
    have htr := HL.out U HU.out.1
    clear hU hG bV hal hk2 hev d0 kU HL
    go_upto_region 3 with (go_at_call 5; refine htr.mono ?_; rintro _ w3 ⟨ta, tc, rfl, hk3, hs3⟩)
    have hlv := HLV.out w3 (HU.out.1.trans hk3 (fun _ f _ => f))
    have H3 : Hid (Keeps None U w3 ∧ SeenD w3 ta N L) := ⟨hk3, hs3⟩
    clear htr hk3 hs3 HLV dU
    go_upto_region 5 with (go_at_call 6; refine hlv.mono ?_; rintro _ w4 ⟨rfl, hk4⟩)
    have kU4 : Keeps None U w4 := H3.out.1.trans hk4 (fun _ f _ => f)
    have hs4 := H3.out.2.more hk4
    obtain ⟨b, rfl, hb, hcl⟩ := hs4.ex (by omega)
    have bV := blk_kept HU.out.2.1 kU4 (fun f => f)
    have g0 : w4.cell? ⟨G, 0, none⟩ = some (.int .i64 v) := (blk_cell bV 0).trans rfl
    have g2 : w4.cell? ⟨G, 2, none⟩ = some (.int .i64 N) := (blk_cell bV 2).trans rfl
    have lv := hcl 0 y0 HE.out.2.2.2.2.1 6 v (by rw [← HE.out.2.2.2.2.2]; rfl)
    simp only [Nat.zero_mul, Nat.zero_add] at lv
    have i1 : ¬ ((N : Int) = 0) := by omega
    have q1 : ((N : Int) == 0) = false := by simpa using i1
    have i2 : (0 : Int) < (N : Int) := by omega
    have H4 : Hid (Keeps None U w4 ∧ SeenD w4 (some ⟨b, 0, none⟩) N L ∧ Keeps None w w4) := ⟨kU4, hs4, HU.out.1.trans kU4 (fun _ f _ => f)⟩
    clear hlv hk4 kU4 hs4 hcl bV H3
    go_upto_region 7 with fail
    go_quiet (fail)
    have k5 := Keeps.drewN None w4 nq
    obtain ⟨w5, hw5⟩ : ∃ w5, w5 = w4.drewN nq := ⟨_, rfl⟩
    rw [← hw5] at k5 ⊢
    clear hw5 g0 g2 lv
    have hsh := shaped_any (some ⟨b, 0, none⟩) N tc L l D w5 (H4.out.2.1.more k5) HE.out.1.good hNb
    have HK5 : Hid _ := k5
    clear k5
    go_upto_region 10 with (go_at_call 7; refine hsh.mono ?_; rintro _ w6 ⟨dg, rfl, hk6, hdc⟩)
    have k46 : Keeps None w4 w6 := HK5.out.trans hk6 (fun _ f _ => f)
    have H6 : Hid (Keeps None w w6 ∧ (∀ k x, L[k]? = some x → ∀ j y, x.l[j]? = some y → w6.cell? ⟨b, k * 7 + j, none⟩ = some (.int .i64 y)) ∧ (∀ j d, D[j]? = some d → w6.cell? ⟨dg, j, none⟩ = some (.int .i64 d)) ∧ w6.cell? ⟨B, 0, none⟩ = some (.slice a n c) ∧ w6.heap[G]? = some (.cells #[.int .i64 v, .int .i64 wk, .int .i64 N, .int .i64 dp, .int .i64 sp] 27 (0, 0))) := by
      refine ⟨H4.out.2.2.trans k46 (fun _ f _ => f), ?_, hdc, ?_, ?_⟩
      · obtain ⟨b', e, _, hc⟩ := (H4.out.2.1.more k46).ex (by omega)
        injection e with e
        injection e with e
        subst e
        exact hc
      · exact ((HU.out.2.2.trans H4.out.1 (fun _ f _ => f)).trans k46 (fun _ f _ => f)).cell HX.out.2.1 (fun f => f)
      · exact blk_kept HU.out.2.1 (H4.out.1.trans k46 (fun _ f _ => f)) (fun f => f)
    have hnil := isNil (some ⟨dg, 0, none⟩) N N w6
    simp only [Option.isNone] at hnil
    clear hsh hk6 hdc k46 HK5 H4 HU hb
    go_wp2_with fail
    clear hnil
    go_loopw [12, 13, 14] (fun s12 s13 s14 wr => ∃ i : Nat, i ≤ N ∧ s14 = .int .i64 i ∧ s12 = .int .i64 (sumW (L.take i)) ∧ s13 = .int .i64 (maxD (D.take i)) ∧ Keeps None w6 wr) (fun _ _ i _ => N - (intOf i).toNat)
    case atStart => exact ⟨0, Nat.zero_le _, rfl, rfl, rfl, Keeps.refl _ _⟩
    case round =>
      obtain ⟨i, hi, rfl, rfl, rfl, hkp⟩ := hrel
      have hsb := sum_take_bound HE.out.1.fin i
      have hmb := max_bound HE.out.1.good i
      have hKl : (keys L).length = N := by simp [keys, HE.out.2.1]
      rw [← HE.out.2.2.1] at hsb
      rw [hKl] at hmb
      by_cases hiN : i < N
      · obtain ⟨x, hx⟩ : ∃ x, L[i]? = some x := ⟨L[i]'(by have := HE.out.2.1; omega), by simp⟩
        obtain ⟨d, hd⟩ : ∃ d, D[i]? = some d := ⟨D[i]'(by have := HE.out.1.good.len; omega), by simp⟩
        have hxk : (keys L)[i]? = some (keyN x) := by simp [keys, hx]
        have hdd := HE.out.1.good.dep i d hd
        have hx1 := HE.out.1.fin i x hx
        have hsb2 := sum_take_bound HE.out.1.fin (i + 1)
        rw [← HE.out.2.2.1] at hsb2
        have hs1 := sum_take_step hx
        have hm1 := max_take_step hd
        rw [hs1] at hsb2
        have HS : Hid (sumW (L.take (i + 1)) = sumW (L.take i) + x.work ∧ maxD (D.take (i + 1)) = imax (maxD (D.take i)) d ∧ Keeps None w6 wr) := ⟨hs1, hm1, hkp⟩
        generalize sumW (L.take i) = S at *
        generalize maxD (D.take i) = M at *
        have y3 := hkp.cell (H6.out.2.1 i x hx 3 x.work rfl) (fun f => f)
        have dz := hkp.cell (H6.out.2.2.1 i d hd) (fun f => f)
        have i3 : (i : Int) < (N : Int) := by omega
        have j1 : ¬ (x.work < 1) := by omega
        by_cases hi0 : i = 0
        · subst hi0
          simp only [Nat.zero_mul, Nat.zero_add] at y3
          clear hs1 hm1 hkp hx hxk hd
          go_upto_region 19 with fail
          go_quiet (fail)
          go_wp2_with fail
          exact ⟨⟨1, by omega, by simp, by rw [HS.out.1], by rw [HS.out.2.1]; rfl, HS.out.2.2.trans (Keeps.drewN None _ _) (fun _ f _ => f)⟩, by simp [intOf]; omega⟩
        · obtain ⟨x', d', p, y, h1, hd', hno⟩ := HE.out.1.good.at i (by omega) (by omega)
          rw [hxk] at h1
          obtain rfl := Option.some.inj h1
          have hpi : p < i := by have := (List.getElem?_eq_some_iff.1 hno.at_).1; simp at this; omega
          have hpy : (keys L)[p]? = some y := by have := hno.at_; rw [List.getElem?_take, if_pos hpi] at this; exact this
          obtain ⟨F, fn, j, ins, hyF, hF, hj, h5, hbb, hlen⟩ := HE.out.1.good.spawns HE.out.1.all hpy hno.spw
          obtain ⟨ny, hny, hnk⟩ : ∃ ny, L[p]? = some ny ∧ keyN ny = y := by
            unfold keys at hpy
            rw [List.getElem?_map, Option.map_eq_some_iff] at hpy
            exact hpy
          have c0 := hkp.cell (H6.out.2.1 i x hx 0 (p : Int) (by have : x.parent = (p : Int) := hno.par; rw [← this]; rfl)) (fun f => f)
          have c2 := hkp.cell (H6.out.2.1 i x hx 2 x.func rfl) (fun f => f)
          have p2 := hkp.cell (H6.out.2.1 p ny hny 2 (F : Int) (by rw [← hyF, ← hnk]; rfl)) (fun f => f)
          simp only [Nat.add_zero] at c0
          have dB := hkp.cell H6.out.2.2.2.1 (fun f => f)
          have hsp := fun wx (hx : Keeps None w wx) => spawns_any a n c l F x.func wx (HX.out.2.2.more hx) fn hF j ins hj h5 hbb hlen (by omega)
          have HSP : Hid _ := hsp
          have HK : Hid (Keeps None w wr) := H6.out.1.trans hkp (fun _ f _ => f)
          have j2 : (p : Int) < (N : Int) := by omega
          have j3 : (0 : Int) < (i : Int) := by omega
          have j4 : 0 < i := by omega
          clear hs1 hm1 hkp hx hxk hd hd' hno hpy hyF hF hj h5 hbb hlen hny hnk hsp
          go_upto_region 19 with fail
          obtain ⟨M2, hM2⟩ : ∃ M2, M2 = (if M < d then d else M) := ⟨_, rfl⟩
          rw [← hM2]
          have HM : Hid (maxD (D.take (i + 1)) = M2) := by rw [HS.out.2.1, hM2]; rfl
          clear hM2
          go_cut [117] (fun s117 wx => s117 = .bool false ∧ Keeps None wr wx)
          case first =>
            go_region_held3 (fun w' => w'.cell? ⟨b, i * 7 + 3, none⟩ = some (.int .i64 x.work) ∧ w'.cell? ⟨b, i * 7, none⟩ = some (.int .i64 (p : Int)) ∧ w'.cell? ⟨b, i * 7 + 2, none⟩ = some (.int .i64 x.func) ∧ w'.cell? ⟨b, p * 7 + 2, none⟩ = some (.int .i64 (F : Int)) ∧ w'.cell? ⟨B, 0, none⟩ = some (.slice a n c)) (go_keep) (first
              | (go_at_call 8; refine (HSP.out _ (HK.out.trans (Keeps.drew None wr) (fun _ f _ => f))).mono ?_; rintro _ w9 ⟨rfl, hk9⟩; have rr1 := ((Keeps.drew None wr).trans hk9 (fun _ f _ => f)).cell y3 (fun f => f); have rr2 := ((Keeps.drew None wr).trans hk9 (fun _ f _ => f)).cell c0 (fun f => f); have rr3 := ((Keeps.drew None wr).trans hk9 (fun _ f _ => f)).cell c2 (fun f => f); have rr4 := ((Keeps.drew None wr).trans hk9 (fun _ f _ => f)).cell p2 (fun f => f); have rr5 := ((Keeps.drew None wr).trans hk9 (fun _ f _ => f)).cell dB (fun f => f)))
            all_goals (go_wp2_with fail; go_meet)
            all_goals exact ⟨rfl, (Keeps.drew None wr).trans hk9 (fun _ f _ => f)⟩
          case rest =>
            obtain ⟨rfl, hkc⟩ := hcut
            have HKC : Hid _ := hkc
            clear hkc
            go_wp2_with fail
            exact ⟨⟨i + 1, by omega, by simp, by rw [HS.out.1], by rw [HM.out], HS.out.2.2.trans HKC.out (fun _ f _ => f)⟩, by simp [intOf]; omega⟩
      · have hin : N = i := by omega
        subst hin
        have i3 : ¬ ((N : Int) < (N : Int)) := by omega
        have e1 : sumW (L.take N) = wk := by rw [HE.out.2.2.1, List.take_of_length_le (by have := HE.out.2.1; omega)]
        have e2 : maxD (D.take N) = dp := by rw [HE.out.2.2.2.1, List.take_of_length_le (by have := HE.out.1.good.len; omega)]
        rw [e1, e2]
        have bV := blk_kept H6.out.2.2.2.2 hkp (fun f => f)
        have g1 : wr.cell? ⟨G, 1, none⟩ = some (.int .i64 wk) := (blk_cell bV 1).trans rfl
        have g3 : wr.cell? ⟨G, 3, none⟩ = some (.int .i64 dp) := (blk_cell bV 3).trans rfl
        have HQ : Hid (Keeps None w wr) := H6.out.1.trans hkp (fun _ f _ => f)
        clear hsb hmb e1 e2 bV hkp
        go_wp2_with fail
        go_ret
        exact ⟨rfl, HQ.out⟩
  · have hvz := eval_not he0
    have HL : Hid (∀ (wx : World), Keeps None w wx → Calls Tryd.prog 5 #[.agg #[.slice a n c], .slice aa an ac, .int .i64 fuel] wx fun e w' => e = .returned (.tuple #[.slice none 0 0, .int .i64 (evalV l zs fuel).2]) ∧ Keeps None wx w') := fun wx hx => (HTR.out wx hx).mono fun e w' h => by
      obtain ⟨nv, he, hk, _, h1, _⟩ := h
      rw [h1 he0] at he
      exact ⟨he, hk⟩
    rw [hvz] at hev
    unfold valC zeroVal at hev
    simp only at hev
    have heb : ((evalV l zs fuel).2 != 0) = true := by simpa using he0
    generalize (evalV l zs fuel).2 = er at *
    have heq := eqVal6 0 0 0 0 0
    clear hT hS hok hZ hk1 b1 hlv htr HTR he0 hvz hfu
    go_enter Tryd.func3, Tryd.ntmps3
    go_upto_region 1 with fail
    rw [← hW, ← hB]
    clear hW hB
    go_upto_region 2 with (go_at_call 4; refine hev.mono ?_; rintro _ w2 ⟨rfl, hk2⟩)
    have bV := heap_alloc_new w2 (.cells #[.int .i64 0, .int .i64 0, .int .i64 0, .int .i64 0, .int .i64 0] 27)
    have hal := Keeps.alloc None w2 (.cells #[.int .i64 0, .int .i64 0, .int .i64 0, .int .i64 0, .int .i64 0] 27)
    obtain ⟨U, hU⟩ : ∃ U, U = w2.alloc (.cells #[.int .i64 0, .int .i64 0, .int .i64 0, .int .i64 0, .int .i64 0] 27) := ⟨_, rfl⟩
    obtain ⟨G, hG⟩ : ∃ G, G = w2.heap.size := ⟨_, rfl⟩
    rw [← hU] at hal bV
    rw [← hG] at bV
    rw [← hU, ← hG]
    have kU : Keeps None W U := hk2.trans hal (fun _ f _ => f)
    have dU := kU.cell d0 (fun f => f)
    have HU : Hid (Keeps None w U ∧ U.heap[G]? = some (.cells #[.int .i64 0, .int .i64 0, .int .i64 0, .int .i64 0, .int .i64 0] 27 (0, 0))) := ⟨HX.out.1.trans kU (fun _ f _ => f), bV⟩
    have htr := HL.out U HU.out.1
    clear hU hG bV hal hk2 hev d0 kU HL
    go_upto_region 3 with (go_at_call 5; refine htr.mono ?_; rintro _ w3 ⟨rfl, hk3⟩)
    have hlv := HLV.out w3 (HU.out.1.trans hk3 (fun _ f _ => f))
    have H3 : Hid (Keeps None U w3) := hk3
    clear htr hk3 HLV dU
    go_upto_region 5 with (go_at_call 6; refine hlv.mono ?_; rintro _ w4 ⟨rfl, hk4⟩)
    have kU4 : Keeps None U w4 := H3.out.trans hk4 (fun _ f _ => f)
    have bV := blk_kept HU.out.2 kU4 (fun f => f)
    have g0 : w4.cell? ⟨G, 0, none⟩ = some (.int .i64 0) := (blk_cell bV 0).trans rfl
    have g1 : w4.cell? ⟨G, 1, none⟩ = some (.int .i64 0) := (blk_cell bV 1).trans rfl
    have g2 : w4.cell? ⟨G, 2, none⟩ = some (.int .i64 0) := (blk_cell bV 2).trans rfl
    have g3 : w4.cell? ⟨G, 3, none⟩ = some (.int .i64 0) := (blk_cell bV 3).trans rfl
    have g4 : w4.cell? ⟨G, 4, none⟩ = some (.int .i64 0) := (blk_cell bV 4).trans rfl
    have HQ : Hid (Keeps None w w4) := HU.out.1.trans kU4 (fun _ f _ => f)
    clear hlv hk4 kU4 bV H3
    go_wp2_with fail
    go_ret
    exact ⟨rfl, HQ.out⟩
end Go.Proofs.YtiphikoaohhpeaaDoor
