import Derived.Test.YtfccnmgbdkideaaDoorPkAW
import Derived.Test.YtfccnmgbdkideaaDoorPkAV
/-! 'asksPed'. -/
namespace Go.Proofs.YtfccnmgbdkideaaDoor
set_option linter.unusedVariables false
set_option maxRecDepth 20000
open Go.RowKit Go.HeapKit Go.PlainOps

def AskPost (l : List Fn) (w : World) (e : Ending) (w' : World) : Prop := ∃ b : Bool, e = .returned (.bool b) ∧ (b = false → noPed l) ∧ Keeps None w w'
set_option maxHeartbeats 2000000 in
theorem asks_any (a : Option Addr) (n c : Nat) (l : List Fn) (w : World) (hS : SeenF w a n l) (hn : n ≤ 32) (hm : ∀ f ∈ l, f.code.length ≤ 512) :
    Calls Tryd.prog 6 #[.agg #[.slice a n c]] w (AskPost l w) := by
  obtain ⟨B, hB⟩ : ∃ B, B = w.heap.size := ⟨_, rfl⟩
  have b1 := heap_alloc_new w (.cells #[.slice a n c] 24)
  have hk1 := Keeps.alloc None w (.cells #[.slice a n c] 24)
  obtain ⟨W, hW⟩ : ∃ W, W = w.alloc (.cells #[.slice a n c] 24) := ⟨_, rfl⟩
  rw [← hW, ← hB] at b1
  rw [← hW] at hk1
  have d0 : W.cell? ⟨B, 0, none⟩ = some (.slice a n c) := (blk_cell b1 0).trans rfl
  have HC : Hid (Keeps None w W ∧ SeenF W a n l ∧ (∀ f ∈ l, f.code.length ≤ 512) ∧ n = l.length ∧ W.cell? ⟨B, 0, none⟩ = some (.slice a n c)) := ⟨hk1, hS.more hk1, hm, hS.len, d0⟩
  clear hk1 hS hm b1
  go_enter Tryd.func6, Tryd.ntmps6
  go_upto_region 1 with fail
  rw [← hW, ← hB]
  clear hW hB
  go_wp2_with fail
  clear d0
  go_loopw [3] (fun s3 wr => ∃ i : Nat, i ≤ n ∧ s3 = .int .i64 i ∧ wr = W ∧ ∀ j f, j < i → l[j]? = some f → ∀ x ∈ f.code, x.kind ≠ 8) (fun i _ => n - (intOf i).toNat)
  case atStart => exact ⟨0, Nat.zero_le _, rfl, rfl, fun j f hj => by omega⟩
  case round =>
    obtain ⟨i, hi, rfl, hwr, hno⟩ := hrel
    subst hwr
    have d1 := HC.out.2.2.2.2
    by_cases hin : i < n
    · have i1 : (i : Int) < (n : Int) := by omega
      obtain ⟨b, off, f, ca, cc, rfl, hf, hat⟩ := HC.out.2.1.at hin
      obtain ⟨m, hme⟩ : ∃ m, m = f.code.length := ⟨_, rfl⟩
      have c1 := hat.code
      have hse := hat.seen
      rw [← hme] at c1 hse
      have hmb : m ≤ 512 := by rw [hme]; exact HC.out.2.2.1 f (List.mem_of_getElem? hf)
      have HI : Hid ((∀ j f, j < i → l[j]? = some f → ∀ x ∈ f.code, x.kind ≠ 8) ∧ l[i]? = some f ∧ m = f.code.length ∧ SeenI wr ca m f.code) := ⟨hno, hf, hme, hse⟩
      clear hno hf hme hse hat
      go_wp2_with fail
      go_loopw [4] (fun s4 wx => ∃ k : Nat, k ≤ m ∧ s4 = .int .i64 k ∧ wx = wr ∧ ∀ q x, q < k → f.code[q]? = some x → x.kind ≠ 8) (fun i _ => m - (intOf i).toNat)
      case atStart => exact ⟨0, Nat.zero_le _, rfl, rfl, fun q x hq => by omega⟩
      case round =>
        obtain ⟨k, hk, rfl, hwx, hnk⟩ := hrel
        subst hwx
        by_cases hkm : k < m
        · have i2 : (k : Int) < (m : Int) := by omega
          obtain ⟨cb, co, rfl, hcb, hins⟩ := HI.out.2.2.2.ex (by omega)
          obtain ⟨x, hx⟩ : ∃ x, f.code[k]? = some x := ⟨f.code[k]'(by have := HI.out.2.2.1; omega), by simp⟩
          have y0 := (hins k x hx).kind
          have HX : Hid (f.code[k]? = some x ∧ ∀ q x, q < k → f.code[q]? = some x → x.kind ≠ 8) := ⟨hx, hnk⟩
          clear hins hx hnk hcb
          by_cases h8 : x.kind = 8
          · have q1 : (x.kind == 8) = true := by simpa using h8
            clear h8
            go_wp2_with fail
            go_ret
            exact ⟨true, rfl, (fun h => by cases h), HC.out.1⟩
          · have q1 : (x.kind == 8) = false := by simpa using h8
            have H8 : Hid _ := h8
            clear h8
            go_wp2_with fail
            exact ⟨⟨k + 1, by omega, by simp, trivial, fun q z hq hz => by
              by_cases hqk : q = k
              · subst hqk; rw [HX.out.1] at hz; obtain rfl := Option.some.inj hz; exact H8.out
              · exact HX.out.2 q z (by omega) hz⟩, by simp [intOf]; omega⟩
        · have i2 : ¬ ((m : Int) < (m : Int)) := by omega
          have hkm2 : m = k := by omega
          subst hkm2
          have HX : Hid (∀ q x, q < m → f.code[q]? = some x → x.kind ≠ 8) := hnk
          clear hnk
          go_wp2_with fail
          exact ⟨⟨i + 1, by omega, by simp, trivial, fun j f' hj hf' x hx => by
            by_cases hji : j = i
            · subst hji
              rw [HI.out.2.1] at hf'
              obtain rfl := Option.some.inj hf'
              obtain ⟨q, hq, e⟩ := List.getElem_of_mem hx
              exact HX.out q x (by have := HI.out.2.2.1; omega) (by rw [List.getElem?_eq_getElem hq, e])
            · exact HI.out.1 j f' (by omega) hf' x hx⟩, by simp [intOf]; omega⟩
    · have i1 : ¬ ((n : Int) < (n : Int)) := by omega
      have hin2 : n = i := by omega
      subst hin2
      have HX : Hid (∀ j f, j < n → l[j]? = some f → ∀ x ∈ f.code, x.kind ≠ 8) := hno
      clear hno
      go_wp2_with fail
      go_ret
      refine ⟨false, rfl, fun _ f hf x hx => ?_, HC.out.1⟩
      obtain ⟨j, hj, e⟩ := List.getElem_of_mem hf
      exact HX.out j f (by have := HC.out.2.2.2.1; omega) (by rw [List.getElem?_eq_getElem hj, e]) x hx
end Go.Proofs.YtfccnmgbdkideaaDoor
/-! The sizes of a run that ends, plainly. -/
namespace Go.Proofs.YtfccnmgbdkideaaDoor
set_option linter.unusedVariables false
set_option maxRecDepth 20000
open Go.RowKit Go.PlainOps

structure Sizes (s : Rn) (t : Tk) (sp : Int) (s' : Rn) : Prop where
  work : s'.fuel + s'.tasks + 1 ≤ s.fuel + s.tasks
  tasks : s.tasks ≤ s'.tasks
  depth : s.depth ≤ s'.depth
  few : s'.depth + s.tasks ≤ s.depth + s'.tasks
  more : s.tasks < s'.tasks → t.depth + 1 ≤ s'.depth
  span : t.span + 1 ≤ sp
  due : t.due ≤ sp
  deep : s'.depth ≤ imax s.depth (t.depth + sp - 1)
  alone : s'.tasks = s.tasks → t.due ≤ t.span → sp + s'.fuel = t.span + s.fuel
theorem along_next {fs : List Fn} {f : Fn} {at_ : Nat} {sl : List Int} {i : Ins} (hV : Valid fs f) (h : Along f (at_ : Int) sl) (hi : f.code[at_]? = some i) (turn : Bool) (h9 : i.kind ≠ 9) : Along f (stepAt i at_ turn) (stepSl i sl) := along_step hV h (by simpa using hi) turn h9
theorem loop_sizes {fs : List Fn} (hA : AllV fs) (L : Bool) : ∀ (g : Nat) (s : Rn) (t : Tk) (at_ : Nat) (f : Fn) (sl : List Int), s.In L → t.In fs s.fuel → fs[t.node.func.toNat]? = some f → Along f (at_ : Int) sl → ((1 : Int) ∈ sl ∨ t.due ≤ t.span) → t.depth ≤ s.depth →
    ∀ v sp s', loopV fs L g s t at_ = .done v sp s' → Sizes s t sp s'
  | 0, s, t, at_, f, sl, hs, ht, hf, hal, hpd, hdp, v, sp, s', h => by simp [loopV] at h
  | g + 1, s, t, at_, f, sl, hs, ht, hf, hal, hpd, hdp, v, sp, s', h => by
    have h0 : s.fuel ≠ 0 := fun h0 => by rw [loop_out h0] at h; cases h
    obtain ⟨m, hm⟩ : ∃ m, s.fuel = m + 1 := ⟨s.fuel - 1, by omega⟩
    have hpf : (payS s).fuel = m := by simp [payS, hm]
    have hpt : (payS s).tasks = s.tasks := rfl
    have hpd' : (payS s).depth = s.depth := rfl
    have hcf : codeOf fs t.node.func = f.code := code_of f hf
    have hV := hA.all f (List.mem_of_getElem? hf)
    have hok := hA.ok f (List.mem_of_getElem? hf)
    have hatl : at_ < f.code.length := by have := hal.a1; omega
    obtain ⟨i, hi⟩ : ∃ i, f.code[at_]? = some i := ⟨f.code[at_]'hatl, by simp⟩
    have hic : (codeOf fs t.node.func)[at_]? = some i := by rw [hcf]; exact hi
    have so := step_ok hV hi
    have hik := (hok.code i (List.mem_of_getElem? hi)).k
    have ht' := ht
    rw [hm] at ht'
    have tsp := ht.span
    have tdu := ht.due
    have hcases : i.kind = 3 ∨ i.kind = 4 ∨ i.kind = 5 ∨ i.kind = 6 ∨ i.kind = 9 ∨ (i.kind = 0 ∨ i.kind = 1 ∨ i.kind = 2 ∨ i.kind = 7 ∨ i.kind = 8) := by have := so.kind; omega
    have psp : (payT t).span = t.span + 1 := rfl
    have pdu : (payT t).due = t.due := rfl
    have pdp : (payT t).depth = t.depth := rfl
    have low : ∀ {t1 : Tk}, t1.span = t.span + 1 → t1.due = t.due → t1.depth = t.depth → Sizes (payS s) t1 sp s' → Sizes s t sp s' := by
      intro t1 e1 e2 e3 z
      obtain ⟨z1, z2, z3, z4, z5, z6, z7, z8, z9⟩ := z
      refine ⟨by omega, by omega, by omega, by omega, fun h => by have := z5 (by omega); omega, by omega, by omega, by rw [hpd', e3] at z8; exact z8, fun h1 h2 => ?_⟩
      have := z9 (by omega) (by omega)
      omega
    rcases hcases with hk | hk | hk | hk | hk | hk
    · rw [loop_jump h0 hic hk] at h
      have hn := along_next hV hal hi false (by omega)
      have e1 : stepAt i (at_ : Int) false = ((i.a.toNat : Nat) : Int) := by unfold stepAt; rw [if_pos hk]; have := (so.jump hk).1; omega
      have e2 : stepSl i sl = sl := by unfold stepSl; rw [if_neg (by omega), if_neg (by omega)]
      rw [e1, e2] at hn
      exact low (t1 := payT t) rfl rfl rfl (loop_sizes hA L g (payS s) (payT t) _ f sl hs.pay (by rw [hpf]; exact ht'.pay) hf hn (by rcases hpd with h | h; exact .inl h; exact .inr (by rw [psp, pdu]; omega)) hdp v sp s' h)
    · rw [loop_branch h0 hic hk] at h
      have e2 : stepSl i sl = sl := by unfold stepSl; rw [if_neg (by omega), if_neg (by omega)]
      have hn : Along f (((if t.regs.getD i.a.toNat 0 = 0 then at_ + 1 else i.b.toNat : Nat)) : Int) sl := by
        by_cases hx : t.regs.getD i.a.toNat 0 = 0
        · rw [if_pos hx]
          have hn := along_next hV hal hi false (by omega)
          rw [e2] at hn
          have e1 : stepAt i (at_ : Int) false = ((at_ + 1 : Nat) : Int) := by unfold stepAt; rw [if_neg (by omega), if_neg (by simp)]; omega
          rw [e1] at hn
          exact hn
        · rw [if_neg hx]
          have hn := along_next hV hal hi true (by omega)
          rw [e2] at hn
          have e1 : stepAt i (at_ : Int) true = ((i.b.toNat : Nat) : Int) := by unfold stepAt; rw [if_neg (by omega), if_pos ⟨hk, rfl⟩]; have := (so.branch hk).1; omega
          rw [e1] at hn
          exact hn
      exact low (t1 := payT t) rfl rfl rfl (loop_sizes hA L g (payS s) (payT t) _ f sl hs.pay (by rw [hpf]; exact ht'.pay) hf hn (by rcases hpd with h | h; exact .inl h; exact .inr (by rw [psp, pdu]; omega)) hdp v sp s' h)
    · rw [loop_spawn h0 hic hk] at h
      have hBg := child_begins hs ht h0 so hk
      cases hp : playV fs L g (payS s) (childV fs (payT t) i) with
      | gave e' => rw [hp] at h; cases h
      | done v1 sp1 s2 =>
        rw [hp] at h
        obtain ⟨d1, d2, d3, d4, d5, d6⟩ := child_done hA hBg rfl hp
        unfold playV at hp
        have hd : ¬ 4096 < (childV fs (payT t) i).depth := fun hd => by rw [if_pos hd] at hp; cases hp
        rw [if_neg hd] at hp
        have hti := hBg.tin hd
        obtain ⟨f2, hf2, _, _, hV2, _⟩ := hA.fn hti.func
        have hG2 := good_of hV2.shape hV2.code
        have cdp : (enterT (payS s) (childV fs (payT t) i)).depth = t.depth + 1 := rfl
        have cs1 : (enterS L (payS s) (childV fs (payT t) i)).depth = imax s.depth (t.depth + 1) := rfl
        have cs2 : (enterS L (payS s) (childV fs (payT t) i)).tasks = s.tasks + 1 := rfl
        have cs3 : (enterS L (payS s) (childV fs (payT t) i)).fuel = m := hpf
        have cs4 : (enterT (payS s) (childV fs (payT t) i)).span = 0 := rfl
        have cs5 : (enterT (payS s) (childV fs (payT t) i)).due = 0 := rfl
        have lm := le_imax s.depth (t.depth + 1)
        have zc := loop_sizes hA L g _ _ 0 f2 (List.replicate 8 0) (hBg.sin hd) hti hf2 (by simpa using along_start hG2 (valid_bounds hV2).2.2.1.1) (.inr (by rw [cs4, cs5]; omega)) (by rw [cdp, cs1]; omega) v1 sp1 s2 hp
        obtain ⟨c1, c2, c3, c4, c5, c6, c7, c8, c9⟩ := zc
        rw [cs2, cs3] at c1
        rw [cs2] at c2 c4 c5
        rw [cs1] at c3 c4 c8
        rw [cs4] at c6
        rw [cdp] at c8
        have hn := along_next hV hal hi false (by omega)
        have e1 : stepAt i (at_ : Int) false = ((at_ + 1 : Nat) : Int) := by unfold stepAt; rw [if_neg (by omega), if_neg (by simp)]; omega
        have e2 : stepSl i sl = sl.set i.a.toNat 1 := by unfold stepSl; rw [if_pos hk]
        rw [e1, e2] at hn
        have hmem : (1 : Int) ∈ sl.set i.a.toNat 1 := by
          have hl := hal.len
          have := (so.slot hk)
          exact List.mem_of_getElem? (i := i.a.toNat) (by rw [List.getElem?_set_self (by omega)])
        have gs1 : (gotT (spawnT (payT t)) i.a.toNat v1 sp1).span = t.span + 1 := rfl
        have gs2 : (gotT (spawnT (payT t)) i.a.toNat v1 sp1).due = imax t.due (t.span + 1 + sp1) := rfl
        have gs3 : (gotT (spawnT (payT t)) i.a.toNat v1 sp1).depth = t.depth := rfl
        have zr := loop_sizes hA L g s2 (gotT (spawnT (payT t)) i.a.toNat v1 sp1) (at_ + 1) f _ d5 (ht'.got d1 d2 (by omega)) hf hn (.inl hmem) (by rw [gs3]; omega) v sp s' h
        obtain ⟨r1, r2, r3, r4, r5, r6, r7, r8, r9⟩ := zr
        rw [gs1] at r6
        rw [gs2] at r7
        rw [gs3] at r5 r8
        have li := le_imax t.due (t.span + 1 + sp1)
        have ix : imax s.depth (t.depth + 1) ≤ s.depth + 1 := imax_le (by omega) (by omega)
        have hfin := le_imax s.depth (t.depth + sp - 1)
        have b1 : imax (imax s.depth (t.depth + 1)) (t.depth + 1 + sp1 - 1) ≤ imax s.depth (t.depth + sp - 1) := imax_le (imax_le (by omega) (by omega)) (by omega)
        exact ⟨by omega, by omega, by omega, by omega, fun _ => by omega, by omega, by omega, Int.le_trans r8 (imax_le (by omega) (by omega)), fun hh _ => by omega⟩
    · rw [loop_sync h0 hic hk] at h
      have hn := along_next hV hal hi false (by omega)
      have e1 : stepAt i (at_ : Int) false = ((at_ + 1 : Nat) : Int) := by unfold stepAt; rw [if_neg (by omega), if_neg (by simp)]; omega
      rw [e1] at hn
      have ws : (waitT (payT t)).span = imax (t.span + 1) (t.due + 1) := rfl
      have wd : (waitT (payT t)).due = t.due := rfl
      have wp : (waitT (payT t)).depth = t.depth := rfl
      have li := le_imax (t.span + 1) (t.due + 1)
      have z := loop_sizes hA L g (payS s) (waitT (payT t)) _ f _ hs.pay (by rw [hpf]; exact ht'.wait) hf hn (.inr (by rw [ws, wd]; omega)) hdp v sp s' h
      obtain ⟨z1, z2, z3, z4, z5, z6, z7, z8, z9⟩ := z
      rw [ws] at z6 z9
      rw [wd] at z7 z9
      rw [wp] at z5 z8
      refine ⟨by omega, by omega, by omega, by omega, fun h => z5 (by omega), by omega, by omega, by rw [hpd'] at z8; exact z8, fun h1 h2 => ?_⟩
      have e : imax (t.span + 1) (t.due + 1) = t.span + 1 := if_neg (by omega)
      rw [e] at z9
      have := z9 (by omega) (by omega)
      omega
    · rw [loop_ret h0 hic hk] at h
      injection h with h1 h2 h3
      have hcl := along_clean hV hal (by simpa using hi)
      have hnp : (1 : Int) ∉ sl := by
        unfold cleanV at hcl
        rw [if_neg (by omega), if_neg (by omega), if_pos hk, List.all_eq_true] at hcl
        intro hm1
        have := hcl 1 hm1
        simp at this
      have hdue : t.due ≤ t.span := by rcases hpd with h | h; exact absurd h hnp; exact h
      have k1 : s'.fuel = m := by rw [← h3]; exact hpf
      have k2 : s'.tasks = s.tasks := by rw [← h3]; rfl
      have k3 : s'.depth = s.depth := by rw [← h3]; rfl
      have := le_imax s.depth (t.depth + sp - 1)
      exact ⟨by omega, by omega, by omega, by omega, fun h => by omega, by omega, by omega, by omega, fun _ _ => by omega⟩
    · rw [loop_comp h0 hic hk] at h
      have en : (computeT (payT t) i).node = (payT t).node ∧ (computeT (payT t) i).span = (payT t).span ∧ (computeT (payT t) i).due = (payT t).due ∧ (computeT (payT t) i).depth = (payT t).depth := by
        unfold computeT setR
        repeat' split
        all_goals exact ⟨rfl, rfl, rfl, rfl⟩
      have hn := along_next hV hal hi false (by omega)
      have e1 : stepAt i (at_ : Int) false = ((at_ + 1 : Nat) : Int) := by unfold stepAt; rw [if_neg (by omega), if_neg (by simp)]; omega
      have e2 : stepSl i sl = sl := by unfold stepSl; rw [if_neg (by omega), if_neg (by omega)]
      rw [e1, e2] at hn
      exact low (by rw [en.2.1]; rfl) (by rw [en.2.2.1]; rfl) (by rw [en.2.2.2]; rfl) (loop_sizes hA L g (payS s) (computeT (payT t) i) _ f sl hs.pay (by rw [hpf]; exact ht'.pay.compute i hik) (by rw [en.1]; exact hf) hn (by rcases hpd with h | h; exact .inl h; exact .inr (by rw [en.2.1, en.2.2.1, psp, pdu]; omega)) (by rw [en.2.2.2]; exact hdp) v sp s' h)
/-- The sizes of a run that ends. -/
theorem eval_sizes {fs : List Fn} {zs : List Int} {fuel : Int} (hok : ∀ f ∈ fs, f.Ok) (hz : ∀ x ∈ zs, okI x) (h : (evalV fs zs fuel).2 = 0) :
    let v := (evalV fs zs fuel).1
    1 ≤ v.depth ∧ v.depth ≤ v.tasks ∧ v.tasks ≤ v.work ∧ v.work ≤ fuel ∧ v.depth ≤ v.span ∧ v.span ≤ v.work ∧ (v.tasks = 1 ↔ v.depth = 1) ∧ (v.tasks ≤ 1 → v.span = v.work) ∧ fuel ≤ 4194304 ∧ 0 ≤ fuel ∧ v.depth ≤ 4096 := by
  have hr0 : refusedV fs zs fuel = 0 := by
    by_cases h1 : refusedV fs zs fuel = 0
    · exact h1
    · unfold evalV at h
      rw [if_pos h1] at h
      exact absurd h h1
  obtain ⟨hcz, hpz, hf0, hf1⟩ := refused_zero hr0
  have hA := allV_of hcz hok
  obtain ⟨F, rfl⟩ := Int.eq_ofNat_of_zero_le hf0
  have hBg := root_begins hA false hz F (by omega)
  have hev : evalV fs zs (F : Int) = (match runV fs false zs F with
    | .gave e => (zeroVal, e)
    | .done v sp s => (⟨v, (F : Int) - s.fuel, s.tasks, s.depth, sp⟩, 0)) := by
    unfold evalV
    rw [if_neg (by simpa using hr0)]
    rfl
  cases hq : runV fs false zs F with
  | gave e =>
    rw [hq] at hev
    rw [hev] at h
    exact absurd h (gave_ne hA hBg hq)
  | done v sp s =>
    rw [hq] at hev
    rw [hev]
    obtain ⟨d1, d2, d3, d4, d5, d6⟩ := child_done hA hBg rfl hq
    unfold runV playV at hq
    have hd : ¬ 4096 < (rootT zs).depth := by simp [rootT]
    rw [if_neg hd] at hq
    have hti := hBg.tin hd
    obtain ⟨f, hf, _, _, hV, _⟩ := hA.fn hti.func
    have hG := good_of hV.shape hV.code
    have z := loop_sizes hA false (F + 1) _ _ 0 f (List.replicate 8 0) (hBg.sin hd) hti hf (by simpa using along_start hG (valid_bounds hV).2.2.1.1) (.inr (by show (0 : Int) ≤ 0; omega)) (by show (1 : Int) ≤ imax 0 1; decide) v sp s hq
    obtain ⟨z1, z2, z3, z4, z5, z6, z7, z8, z9⟩ := z
    have k1 : (enterS false (startS F) (rootT zs)).tasks = 1 := rfl
    have k2 : (enterS false (startS F) (rootT zs)).fuel = F := rfl
    have k3 : (enterS false (startS F) (rootT zs)).depth = 1 := rfl
    have k4 : (enterT (startS F) (rootT zs)).span = 0 := rfl
    have k5 : (enterT (startS F) (rootT zs)).due = 0 := rfl
    have k6 : (enterT (startS F) (rootT zs)).depth = 1 := rfl
    have k7 : (startS F).fuel = F := rfl
    rw [k1, k2] at z1
    rw [k1] at z2 z4 z5 z9
    rw [k3] at z3 z4 z8
    rw [k4] at z6 z9
    rw [k5] at z9
    rw [k6] at z5 z8
    rw [k2] at z9
    rw [k7] at d3 d4
    have l8 : imax (1 : Int) (1 + sp - 1) ≤ sp := imax_le (by omega) (by omega)
    have d5d := d5.depth
    show 1 ≤ s.depth ∧ s.depth ≤ (s.tasks : Int) ∧ (s.tasks : Int) ≤ (F : Int) - s.fuel ∧ (F : Int) - s.fuel ≤ F ∧ s.depth ≤ sp ∧ sp ≤ (F : Int) - s.fuel ∧ ((s.tasks : Int) = 1 ↔ s.depth = 1) ∧ ((s.tasks : Int) ≤ 1 → sp = (F : Int) - s.fuel) ∧ (F : Int) ≤ 4194304 ∧ (0 : Int) ≤ F ∧ s.depth ≤ 4096
    refine ⟨by omega, by omega, by omega, by omega, by omega, by omega, ⟨fun e => by omega, fun e => ?_⟩, fun e => ?_, by omega, by omega, by omega⟩
    · by_cases ht : 1 < s.tasks
      · have := z5 ht
        omega
      · omega
    · have := z9 (by omega) (by omega)
      omega
theorem eval_not {fs : List Fn} {zs : List Int} {fuel : Int} (h : (evalV fs zs fuel).2 ≠ 0) : (evalV fs zs fuel).1 = zeroVal := by
  unfold evalV at h ⊢
  by_cases h1 : refusedV fs zs fuel ≠ 0
  · rw [if_pos h1]
  · rw [if_neg h1] at h ⊢
    cases hq : runV fs false zs fuel.toNat with
    | gave e => rfl
    | done v sp s => rw [hq] at h; exact absurd rfl h
end Go.Proofs.YtfccnmgbdkideaaDoor
/-! Fuel changes nothing but whether there is an answer, plainly. -/
namespace Go.Proofs.YtfccnmgbdkideaaDoor
set_option linter.unusedVariables false
set_option maxRecDepth 20000
open Go.RowKit Go.PlainOps

def Rn.at (s : Rn) (F : Nat) : Rn := { s with fuel := F }
section
variable {fs : List Fn} (hA : AllV fs) (L : Bool)
include hA
/-- What ends, ends with any fuel that suffices, and alike. -/
theorem loop_shift : ∀ (g : Nat) (s : Rn) (t : Tk) (at_ : Nat), s.In L → t.In fs s.fuel → at_ < (codeOf fs t.node.func).length → ∀ v sp s', loopV fs L g s t at_ = .done v sp s' →
    ∀ (g2 F : Nat), F < g2 → s.fuel - s'.fuel ≤ F → loopV fs L g2 (s.at F) t at_ = .done v sp (s'.at (F - (s.fuel - s'.fuel)))
  | 0, s, t, at_, hs, ht, hat, v, sp, s', h, g2, F, hg, hF => by simp [loopV] at h
  | g + 1, s, t, at_, hs, ht, hat, v, sp, s', h, g2, F, hg, hF => by
    have h0 : s.fuel ≠ 0 := fun h0 => by rw [loop_out h0] at h; cases h
    obtain ⟨m, hm⟩ : ∃ m, s.fuel = m + 1 := ⟨s.fuel - 1, by omega⟩
    have hpf : (payS s).fuel = m := by simp [payS, hm]
    obtain ⟨f, hf, _, hcf, hV, hok⟩ := hA.fn ht.func
    have hat' := hat
    rw [hcf] at hat'
    obtain ⟨i, hi⟩ : ∃ i, f.code[at_]? = some i := ⟨f.code[at_]'hat', by simp⟩
    have hic : (codeOf fs t.node.func)[at_]? = some i := by rw [hcf]; exact hi
    have so := step_ok hV hi
    have hik := (hok.code i (List.mem_of_getElem? hi)).k
    have ht' := ht
    rw [hm] at ht'
    have hd := loop_in hA L (g + 1) s t at_ hs ht hat v sp s' h
    have hfu := hd.fuel
    have hnl : i.kind ≠ 3 → i.kind ≠ 9 → at_ + 1 < (codeOf fs t.node.func).length := fun h3 h9 => by rw [hcf]; exact so.next h3 h9
    obtain ⟨g3, rfl⟩ : ∃ g3, g2 = g3 + 1 := ⟨g2 - 1, by omega⟩
    have hcases : i.kind = 3 ∨ i.kind = 4 ∨ i.kind = 5 ∨ i.kind = 6 ∨ i.kind = 9 ∨ (i.kind = 0 ∨ i.kind = 1 ∨ i.kind = 2 ∨ i.kind = 7 ∨ i.kind = 8) := by have := so.kind; omega
    -- the fuel that is asked is at least one
    have key : ∀ {t1 : Tk} {at1 : Nat}, t1.In fs m → at1 < (codeOf fs t1.node.func).length → loopV fs L g (payS s) t1 at1 = .done v sp s' → s'.fuel ≤ m ∧ (1 ≤ F → loopV fs L g3 ((payS s).at (F - 1)) t1 at1 = .done v sp (s'.at (F - (s.fuel - s'.fuel)))) := by
      intro t1 at1 hti hat1 h1
      have hd1 := (loop_in hA L g (payS s) t1 at1 hs.pay (by rw [hpf]; exact hti) hat1 v sp s' h1).fuel
      rw [hpf] at hd1
      refine ⟨hd1, fun hF1 => ?_⟩
      have := loop_shift g (payS s) t1 at1 hs.pay (by rw [hpf]; exact hti) hat1 v sp s' h1 g3 (F - 1) (by omega) (by rw [hpf]; omega)
      rw [this, hpf]
      congr 2
      omega
    have hpa : ∀ F, payS (s.at F) = (payS s).at (F - 1) := fun F => rfl
    have hfa : ∀ F, 1 ≤ F → (s.at F).fuel ≠ 0 := fun F hF => by show ¬ F = 0; omega
    rcases hcases with hk | hk | hk | hk | hk | hk
    · rw [loop_jump h0 hic hk] at h
      obtain ⟨k1, k2⟩ := key ht'.pay (by show _ < (codeOf fs t.node.func).length; rw [hcf]; have := so.jump hk; omega) h
      rw [loop_jump (hfa F (by omega)) hic hk, hpa]
      exact k2 (by omega)
    · rw [loop_branch h0 hic hk] at h
      obtain ⟨k1, k2⟩ := key ht'.pay (by show _ < (codeOf fs t.node.func).length; have := hnl (by omega) (by omega); rw [hcf] at this ⊢; have := so.branch hk; split <;> omega) h
      rw [loop_branch (hfa F (by omega)) hic hk, hpa]
      exact k2 (by omega)
    · rw [loop_spawn h0 hic hk] at h
      have hBg := child_begins hs ht h0 so hk
      cases hp : playV fs L g (payS s) (childV fs (payT t) i) with
      | gave e' => rw [hp] at h; cases h
      | done v1 sp1 s2 =>
        rw [hp] at h
        obtain ⟨d1, d2, d3, d4, d5, d6⟩ := child_done hA hBg rfl hp
        rw [hpf] at d3 d4
        have hti2 := ht'.got (a := i.a.toNat) d1 d2 d3
        have hat2 : at_ + 1 < (codeOf fs (gotT (spawnT (payT t)) i.a.toNat v1 sp1).node.func).length := hnl (by omega) (by omega)
        have hd2 := (loop_in hA L g s2 _ (at_ + 1) d5 hti2 hat2 v sp s' h).fuel
        unfold playV at hp
        have hdp : ¬ 4096 < (childV fs (payT t) i).depth := fun hd => by rw [if_pos hd] at hp; cases hp
        rw [if_neg hdp] at hp
        have htic := hBg.tin hdp
        obtain ⟨f2, _, _, hc2, hV2, _⟩ := hA.fn htic.func
        have cs3 : (enterS L (payS s) (childV fs (payT t) i)).fuel = m := hpf
        have c1 := loop_shift g _ _ 0 (hBg.sin hdp) htic (by rw [hc2]; have := (valid_bounds hV2).2.2.2; omega) v1 sp1 s2 hp g3 (F - 1) (by omega) (by rw [cs3]; omega)
        rw [cs3] at c1
        have r1 := loop_shift g s2 (gotT (spawnT (payT t)) i.a.toNat v1 sp1) (at_ + 1) d5 hti2 hat2 v sp s' h g3 (F - 1 - (m - s2.fuel)) (by omega) (by omega)
        rw [loop_spawn (hfa F (by omega)) hic hk, hpa]
        have e1 : playV fs L g3 ((payS s).at (F - 1)) (childV fs (payT t) i) = .done v1 sp1 (s2.at (F - 1 - (m - s2.fuel))) := by
          unfold playV
          rw [if_neg hdp]
          exact c1
        rw [e1]
        show loopV fs L g3 (s2.at (F - 1 - (m - s2.fuel))) _ _ = _
        rw [r1]
        congr 2
        omega
    · rw [loop_sync h0 hic hk] at h
      obtain ⟨k1, k2⟩ := key ht'.wait (by show _ < (codeOf fs t.node.func).length; exact hnl (by omega) (by omega)) h
      rw [loop_sync (hfa F (by omega)) hic hk, hpa]
      exact k2 (by omega)
    · rw [loop_ret h0 hic hk] at h
      injection h with h1 h2 h3
      have k1 : s'.fuel = m := by rw [← h3]; exact hpf
      rw [loop_ret (hfa F (by omega)) hic hk, hpa]
      have e : leaveS L ((payS s).at (F - 1)) (endT (payT t) (t.regs.getD i.a.toNat 0)) = s'.at (F - (s.fuel - s'.fuel)) := by
        rw [show F - (s.fuel - s'.fuel) = F - 1 by omega, ← h3]
        rfl
      rw [e, h1, h2]
    · rw [loop_comp h0 hic hk] at h
      have en : (computeT (payT t) i).node = (payT t).node := by
        unfold computeT setR
        repeat' split
        all_goals rfl
      obtain ⟨k1, k2⟩ := key (ht'.pay.compute i hik) (by rw [en]; show _ < (codeOf fs t.node.func).length; exact hnl (by omega) (by omega)) h
      rw [loop_comp (hfa F (by omega)) hic hk, hpa]
      exact k2 (by omega)
/-- What is too deep stays so with more fuel. -/
theorem loop_deep : ∀ (g : Nat) (s : Rn) (t : Tk) (at_ : Nat), s.In L → t.In fs s.fuel → at_ < (codeOf fs t.node.func).length → loopV fs L g s t at_ = .gave 63 →
    ∀ (g2 F : Nat), F < g2 → s.fuel ≤ F → loopV fs L g2 (s.at F) t at_ = .gave 63
  | 0, s, t, at_, hs, ht, hat, h, g2, F, hg, hF => by simp [loopV] at h
  | g + 1, s, t, at_, hs, ht, hat, h, g2, F, hg, hF => by
    have h0 : s.fuel ≠ 0 := fun h0 => by rw [loop_out h0] at h; cases h
    obtain ⟨m, hm⟩ : ∃ m, s.fuel = m + 1 := ⟨s.fuel - 1, by omega⟩
    have hpf : (payS s).fuel = m := by simp [payS, hm]
    obtain ⟨f, hf, _, hcf, hV, hok⟩ := hA.fn ht.func
    have hat' := hat
    rw [hcf] at hat'
    obtain ⟨i, hi⟩ : ∃ i, f.code[at_]? = some i := ⟨f.code[at_]'hat', by simp⟩
    have hic : (codeOf fs t.node.func)[at_]? = some i := by rw [hcf]; exact hi
    have so := step_ok hV hi
    have hik := (hok.code i (List.mem_of_getElem? hi)).k
    have ht' := ht
    rw [hm] at ht'
    have hnl : i.kind ≠ 3 → i.kind ≠ 9 → at_ + 1 < (codeOf fs t.node.func).length := fun h3 h9 => by rw [hcf]; exact so.next h3 h9
    obtain ⟨g3, rfl⟩ : ∃ g3, g2 = g3 + 1 := ⟨g2 - 1, by omega⟩
    have hcases : i.kind = 3 ∨ i.kind = 4 ∨ i.kind = 5 ∨ i.kind = 6 ∨ i.kind = 9 ∨ (i.kind = 0 ∨ i.kind = 1 ∨ i.kind = 2 ∨ i.kind = 7 ∨ i.kind = 8) := by have := so.kind; omega
    have hpa : ∀ F, payS (s.at F) = (payS s).at (F - 1) := fun F => rfl
    have hfa : (s.at F).fuel ≠ 0 := by show ¬ F = 0; omega
    have key : ∀ {t1 : Tk} {at1 : Nat}, t1.In fs m → at1 < (codeOf fs t1.node.func).length → loopV fs L g (payS s) t1 at1 = .gave 63 → loopV fs L g3 ((payS s).at (F - 1)) t1 at1 = .gave 63 := by
      intro t1 at1 hti hat1 h1
      exact loop_deep g (payS s) t1 at1 hs.pay (by rw [hpf]; exact hti) hat1 h1 g3 (F - 1) (by omega) (by rw [hpf]; omega)
    rcases hcases with hk | hk | hk | hk | hk | hk
    · rw [loop_jump h0 hic hk] at h
      rw [loop_jump hfa hic hk, hpa]
      exact key ht'.pay (by show _ < (codeOf fs t.node.func).length; rw [hcf]; have := so.jump hk; omega) h
    · rw [loop_branch h0 hic hk] at h
      rw [loop_branch hfa hic hk, hpa]
      exact key ht'.pay (by show _ < (codeOf fs t.node.func).length; have := hnl (by omega) (by omega); rw [hcf] at this ⊢; have := so.branch hk; split <;> omega) h
    · rw [loop_spawn h0 hic hk] at h
      rw [loop_spawn hfa hic hk, hpa]
      have hBg := child_begins hs ht h0 so hk
      cases hp : playV fs L g (payS s) (childV fs (payT t) i) with
      | gave e' =>
        rw [hp] at h
        injection h with h
        subst h
        have e1 : playV fs L g3 ((payS s).at (F - 1)) (childV fs (payT t) i) = .gave 63 := by
          unfold playV at hp ⊢
          by_cases hdp : 4096 < (childV fs (payT t) i).depth
          · rw [if_pos hdp]
          · rw [if_neg hdp] at hp ⊢
            have htic := hBg.tin hdp
            obtain ⟨f2, _, _, hc2, hV2, _⟩ := hA.fn htic.func
            have cs3 : (enterS L (payS s) (childV fs (payT t) i)).fuel = m := hpf
            exact loop_deep g _ _ 0 (hBg.sin hdp) htic (by rw [hc2]; have := (valid_bounds hV2).2.2.2; omega) hp g3 (F - 1) (by omega) (by rw [cs3]; omega)
        rw [e1]
      | done v1 sp1 s2 =>
        rw [hp] at h
        obtain ⟨d1, d2, d3, d4, d5, d6⟩ := child_done hA hBg rfl hp
        rw [hpf] at d3 d4
        have hti2 := ht'.got (a := i.a.toNat) d1 d2 d3
        have hat2 : at_ + 1 < (codeOf fs (gotT (spawnT (payT t)) i.a.toNat v1 sp1).node.func).length := hnl (by omega) (by omega)
        unfold playV at hp
        have hdp : ¬ 4096 < (childV fs (payT t) i).depth := fun hd => by rw [if_pos hd] at hp; cases hp
        rw [if_neg hdp] at hp
        have htic := hBg.tin hdp
        obtain ⟨f2, _, _, hc2, hV2, _⟩ := hA.fn htic.func
        have cs3 : (enterS L (payS s) (childV fs (payT t) i)).fuel = m := hpf
        have c1 := loop_shift hA L g _ _ 0 (hBg.sin hdp) htic (by rw [hc2]; have := (valid_bounds hV2).2.2.2; omega) v1 sp1 s2 hp g3 (F - 1) (by omega) (by rw [cs3]; omega)
        rw [cs3] at c1
        have e1 : playV fs L g3 ((payS s).at (F - 1)) (childV fs (payT t) i) = .done v1 sp1 (s2.at (F - 1 - (m - s2.fuel))) := by
          unfold playV
          rw [if_neg hdp]
          exact c1
        rw [e1]
        exact loop_deep g s2 (gotT (spawnT (payT t)) i.a.toNat v1 sp1) (at_ + 1) d5 hti2 hat2 h g3 _ (by omega) (by omega)
    · rw [loop_sync h0 hic hk] at h
      rw [loop_sync hfa hic hk, hpa]
      exact key ht'.wait (by show _ < (codeOf fs t.node.func).length; exact hnl (by omega) (by omega)) h
    · rw [loop_ret h0 hic hk] at h
      cases h
    · rw [loop_comp h0 hic hk] at h
      rw [loop_comp hfa hic hk, hpa]
      have en : (computeT (payT t) i).node = (payT t).node := by
        unfold computeT setR
        repeat' split
        all_goals rfl
      exact key (ht'.pay.compute i hik) (by rw [en]; show _ < (codeOf fs t.node.func).length; exact hnl (by omega) (by omega)) h
end
/-- The root, with other fuel. -/
theorem run_shift {fs : List Fn} (hA : AllV fs) {zs : List Int} (hz : ∀ x ∈ zs, okI x) {F : Nat} (hF : F ≤ 4194304) {v sp : Int} {s : Rn} (h : runV fs false zs F = .done v sp s) (F2 : Nat) (h2 : F - s.fuel ≤ F2) : runV fs false zs F2 = .done v sp (s.at (F2 - (F - s.fuel))) := by
  have hBg := root_begins hA false hz F hF
  unfold runV playV at h ⊢
  have hd : ¬ 4096 < (rootT zs).depth := by simp [rootT]
  rw [if_neg hd] at h ⊢
  have hti := hBg.tin hd
  obtain ⟨f, hf, _, hc, hV, _⟩ := hA.fn hti.func
  exact loop_shift hA false (F + 1) _ _ 0 (hBg.sin hd) hti (by rw [hc]; have := (valid_bounds hV).2.2.2; omega) v sp s h (F2 + 1) F2 (by omega) h2
theorem run_deep {fs : List Fn} (hA : AllV fs) {zs : List Int} (hz : ∀ x ∈ zs, okI x) {F : Nat} (hF : F ≤ 4194304) (h : runV fs false zs F = .gave 63) (F2 : Nat) (h2 : F ≤ F2) : runV fs false zs F2 = .gave 63 := by
  have hBg := root_begins hA false hz F hF
  unfold runV playV at h ⊢
  have hd : ¬ 4096 < (rootT zs).depth := by simp [rootT]
  rw [if_neg hd] at h ⊢
  have hti := hBg.tin hd
  obtain ⟨f, hf, _, hc, hV, _⟩ := hA.fn hti.func
  exact loop_deep hA false (F + 1) _ _ 0 (hBg.sin hd) hti (by rw [hc]; have := (valid_bounds hV).2.2.2; omega) h (F2 + 1) F2 (by omega) h2
theorem run_gave {fs : List Fn} (hA : AllV fs) {zs : List Int} (hz : ∀ x ∈ zs, okI x) {F : Nat} (hF : F ≤ 4194304) {e : Int} (h : runV fs false zs F = .gave e) : e = 62 ∨ e = 63 := by
  have hBg := root_begins hA false hz F hF
  unfold runV playV at h
  have hd : ¬ 4096 < (rootT zs).depth := by simp [rootT]
  rw [if_neg hd] at h
  have hti := hBg.tin hd
  obtain ⟨f, hf, _, hc, hV, _⟩ := hA.fn hti.func
  exact loop_gave hA false (F + 1) _ _ 0 (hBg.sin hd) hti (by rw [hc]; have := (valid_bounds hV).2.2.2; omega) e h
end Go.Proofs.YtfccnmgbdkideaaDoor
/-! What a task's part of the tree comes to as the entry. -/
namespace Go.Proofs.YtfccnmgbdkideaaDoor
set_option linter.unusedVariables false
set_option maxRecDepth 20000
open Go.RowKit Go.PlainOps

theorem Grows.func {fs : List Fn} (hA : AllV fs) {K : List Ky} {D : List Int} (h : Grows fs K D) : ∀ (i : Nat) (x : Ky), K[i]? = some x → 0 ≤ x.func ∧ x.func < fs.length := by
  induction h with
  | one => intro i x hx; cases i with
    | zero => simp at hx; subst hx; have := hA.len; exact ⟨Int.le_refl _, by show (0 : Int) < _; omega⟩
    | succ i => simp at hx
  | @more K D x d p y hg hn ih =>
    intro i z hz
    by_cases hi : i < K.length
    · rw [List.getElem?_append_left hi] at hz
      exact ih i z hz
    · rw [List.getElem?_append_right (by omega)] at hz
      have hi2 : i - K.length = 0 := by
        have := (List.getElem?_eq_some_iff.1 hz).1
        simp at this
        omega
      rw [hi2] at hz
      simp at hz
      subst hz
      obtain ⟨ins, hm, h5, hb⟩ := hn.spw
      obtain ⟨f, hf, _, hc, hV, _⟩ := hA.fn (ih p y hn.at_)
      rw [hc] at hm
      obtain ⟨j, hj, e⟩ := List.getElem_of_mem hm
      have so := step_ok hV (at_ := j) (i := ins) (by rw [List.getElem?_eq_getElem hj, e])
      rw [← hb]
      exact so.fn h5
/-- The nodes' numbers are numbers. -/
theorem loop_args {fs : List Fn} (hA : AllV fs) : ∀ (g : Nat) (s : Rn) (t : Tk) (at_ : Nat), s.In true → t.In fs s.fuel → at_ < (codeOf fs t.node.func).length → ∀ v sp s', loopV fs true g s t at_ = .done v sp s' → (∀ y ∈ s.nodes, okI y.arg) → okI t.node.arg → ∀ y ∈ s'.nodes, okI y.arg
  | 0, s, t, at_, hs, ht, hat, v, sp, s', h => by simp [loopV] at h
  | g + 1, s, t, at_, hs, ht, hat, v, sp, s', h => by
    intro hn ha
    by_cases h0 : s.fuel = 0
    · rw [loop_out h0] at h; cases h
    · obtain ⟨m, hm⟩ : ∃ m, s.fuel = m + 1 := ⟨s.fuel - 1, by omega⟩
      have hpf : (payS s).fuel = m := by simp [payS, hm]
      obtain ⟨f, hf, _, hcf, hV, hok⟩ := hA.fn ht.func
      have hat' := hat
      rw [hcf] at hat'
      obtain ⟨i, hi⟩ : ∃ i, f.code[at_]? = some i := ⟨f.code[at_]'hat', by simp⟩
      have hic : (codeOf fs t.node.func)[at_]? = some i := by rw [hcf]; exact hi
      have so := step_ok hV hi
      have hik := (hok.code i (List.mem_of_getElem? hi)).k
      have ht' := ht
      rw [hm] at ht'
      have hnl : i.kind ≠ 3 → i.kind ≠ 9 → at_ + 1 < (codeOf fs t.node.func).length := fun h3 h9 => by rw [hcf]; exact so.next h3 h9
      have hcases : i.kind = 3 ∨ i.kind = 4 ∨ i.kind = 5 ∨ i.kind = 6 ∨ i.kind = 9 ∨ (i.kind = 0 ∨ i.kind = 1 ∨ i.kind = 2 ∨ i.kind = 7 ∨ i.kind = 8) := by have := so.kind; omega
      rcases hcases with hk | hk | hk | hk | hk | hk
      · rw [loop_jump h0 hic hk] at h
        exact loop_args hA g _ _ _ hs.pay (by rw [hpf]; exact ht'.pay) (by show _ < (codeOf fs t.node.func).length; rw [hcf]; have := so.jump hk; omega) v sp s' h hn ha
      · rw [loop_branch h0 hic hk] at h
        exact loop_args hA g _ _ _ hs.pay (by rw [hpf]; exact ht'.pay) (by show _ < (codeOf fs t.node.func).length; have := hnl (by omega) (by omega); rw [hcf] at this ⊢; have := so.branch hk; split <;> omega) v sp s' h hn ha
      · rw [loop_spawn h0 hic hk] at h
        have hBg := child_begins hs ht h0 so hk
        cases hp : playV fs true g (payS s) (childV fs (payT t) i) with
        | gave e' => rw [hp] at h; cases h
        | done v1 sp1 s2 =>
          rw [hp] at h
          obtain ⟨d1, d2, d3, d4, d5, d6⟩ := child_done hA hBg rfl hp
          have hn2 : ∀ y ∈ s2.nodes, okI y.arg := by
            unfold playV at hp
            by_cases hd : 4096 < (childV fs (payT t) i).depth
            · rw [if_pos hd] at hp; cases hp
            · rw [if_neg hd] at hp
              have hti := hBg.tin hd
              obtain ⟨f2, _, _, hc2, hV2, _⟩ := hA.fn hti.func
              have hao : okI (enterT (payS s) (childV fs (payT t) i)).node.arg := getD_ok hti.okr 0
              refine loop_args hA g _ _ 0 (hBg.sin hd) hti (by rw [hc2]; have := (valid_bounds hV2).2.2.2; omega) v1 sp1 s2 hp (fun y hy => ?_) hao
              have hy2 : y ∈ s.nodes ++ [(enterT (payS s) (childV fs (payT t) i)).node] := hy
              rcases List.mem_append.1 hy2 with h1 | h1
              · exact hn y h1
              · simp at h1; rw [h1]; exact hao
          exact loop_args hA g _ _ _ d5 (ht'.got d1 d2 (by omega)) (by show _ < (codeOf fs t.node.func).length; exact hnl (by omega) (by omega)) v sp s' h hn2 ha
      · rw [loop_sync h0 hic hk] at h
        exact loop_args hA g _ _ _ hs.pay (by rw [hpf]; exact ht'.wait) (by show _ < (codeOf fs t.node.func).length; exact hnl (by omega) (by omega)) v sp s' h hn ha
      · rw [loop_ret h0 hic hk] at h
        injection h with e1 e2 e3
        subst e3
        intro y hy
        have hy2 : y ∈ s.nodes.set t.number.toNat (endT (payT t) (t.regs.getD i.a.toNat 0)).node := hy
        rcases List.mem_or_eq_of_mem_set hy2 with h1 | h1
        · exact hn y h1
        · rw [h1]; exact ha
      · rw [loop_comp h0 hic hk] at h
        have en : (computeT (payT t) i).node = (payT t).node := by
          unfold computeT setR
          repeat' split
          all_goals rfl
        exact loop_args hA g _ _ _ hs.pay (by rw [hpf]; exact ht'.pay.compute i hik) (by rw [en]; show _ < (codeOf fs t.node.func).length; exact hnl (by omega) (by omega)) v sp s' h hn (by rw [en]; exact ha)
def argOf (l : List Fn) (x : Nd) : List Int := if parV l x.func = 1 then [x.arg] else []
theorem args_none (R : List Int) (k : Nat) : argsV R k 0 = argsV [] 0 0 := by simp [argsV]
theorem args_lone (R : List Int) (k : Nat) : argsV R k 1 = argsV [(argsV R k 1).getD 0 0] 0 1 := by
  have e : (argsV R k 1).getD 0 0 = R.getD k 0 := by simp [argsV, List.getD]
  rw [e]
  unfold argsV
  apply List.map_congr_left
  intro j _
  by_cases hj : j < 1
  · have : j = 0 := by omega
    subst this
    simp
  · simp [hj]
theorem rho_self (F : Nat) : rho F (F : Int) = 0 := by
  unfold rho
  by_cases h : (F : Int) = 0
  · rw [if_pos h, h]
  · rw [if_neg h, if_pos rfl]
/-- From the part of a list to what Eval tells of the swapped program. -/
structure PartOk (l : List Fn) (L : List Nd) (j e : Nat) (x : Nd) (N : Nat) : Prop where
  lt : j < e
  le : e ≤ L.length
  low : ∀ q y, j < q → q < e → L[q]? = some y → (j : Int) ≤ y.parent
  next : ∀ y, L[e]? = some y → y.parent < (j : Int)
  ev : ∃ dp sp, evalV (swapL l x.func.toNat) (argOf l x) (N : Int) = (⟨x.v, sumW ((L.drop j).take (e - j)), ((e - j : Nat) : Int), dp, sp⟩, 0)
theorem sub_eval {l : List Fn} (hA : AllV l) (hcz : checkV l = (0, 0, 0)) (hok : ∀ f ∈ l, f.Ok) (hp : noPed l) {B j : Nat} {L : List Nd} (h : Sub l B L j) {N : Nat} (hB : B ≤ N) (hN : N ≤ 4194304) {x : Nd} (hx : L[j]? = some x) (hf : 0 ≤ x.func ∧ x.func < l.length) (hpar : parV l x.func = 0 ∨ parV l x.func = 1) (hxa : okI x.arg) : ∃ e, PartOk l L j e x N := by
  obtain ⟨g, s0, c, v, sp, s2, h⟩ := h
  obtain ⟨y, y1, y2, y3, y4⟩ := h.node
  have hxy : y = x := by
    have := h.same j (Nat.le_refl _) h.lt
    rw [hx, y1] at this
    exact (Option.some.inj this).symm
  subst hxy
  obtain ⟨F, hF⟩ := Int.eq_ofNat_of_zero_le hf.1
  have hFl : F < l.length := by omega
  have hFn : y.func.toNat = F := by omega
  have hcs := check_swap hFl hcz
  have hA2 : AllV (swapL l F) := allV_of hcs (ok_swap hFl (by have := hA.len; omega) hok)
  have hpz : parV (swapL l F) 0 = parV l y.func := by
    have h1 := par_swap hFl (b := (F : Int)) (by omega)
    rw [rho_self] at h1
    rw [h1, hF]
  have hal : ((argOf l y).length : Int) = parV (swapL l F) 0 := by
    rw [hpz]
    unfold argOf
    rcases hpar with e | e
    · rw [if_neg (by omega), e]; rfl
    · rw [if_pos e, e]; rfl
  have hz : ∀ z ∈ argOf l y, okI z := fun z hz => by
    unfold argOf at hz
    split at hz
    · simp at hz; rw [hz]; exact hxa
    · simp at hz
  have hBg := root_begins hA2 false hz N hN
  have hd1 : ¬ 4096 < (rootT (argOf l y)).depth := by show ¬ (4096 : Int) < 1; decide
  obtain ⟨R, k, hregs⟩ := h.regs
  have hS : SimT l F (enterT s0 c) (enterT (startS N) (rootT (argOf l y))) := by
    refine ⟨?_, h.slots.symm, ?_, ?_, ?_⟩
    · show argsV (argOf l y) 0 (argOf l y).length = c.regs
      rw [hregs, ← y3]
      unfold argOf
      rcases hpar with e | e
      · rw [if_neg (by omega), e]
        exact (args_none R k).symm
      · rw [if_pos e, e]
        have e2 : y.arg = (argsV R k 1).getD 0 0 := by rw [y4, hregs, ← y3, e]; rfl
        rw [e2]
        exact (args_lone R k).symm
    · show (0 : Int) = rho F c.node.func
      rw [← y3, hF, rho_self]
    · show 0 ≤ c.node.func ∧ c.node.func < l.length
      rw [← y3]; exact hf
    · show (1 : Int) ≤ c.depth
      exact h.dep.1
  have hfu := h.fuel
  obtain ⟨sp', s2', q1, q2, q3⟩ := loop_sim hFl hA hp g _ _ 0 v sp s2 h.run 0 (N - s0.fuel) (enterS false (startS N) (rootT (argOf l y))) _ (by show N = s0.fuel + (N - s0.fuel); omega) hS
  obtain ⟨f2, _, _, hc2, hV2, _⟩ := hA2.fn (hBg.tin hd1).func
  have hsum := h.sum
  have hw0 : 0 ≤ sumW (s2.nodes.drop j) ∨ True := .inr trivial
  have hle : s2'.fuel ≤ N := by
    have := (loop_in hA2 false _ _ _ 0 (hBg.sin hd1) (hBg.tin hd1) (by rw [hc2]; have := (valid_bounds hV2).2.2.2; omega) v sp' s2' q1).fuel
    exact this
  have hsh := loop_shift hA2 false _ _ _ 0 (hBg.sin hd1) (hBg.tin hd1) (by rw [hc2]; have := (valid_bounds hV2).2.2.2; omega) v sp' s2' q1 (N + 1) N (by omega) (by show N - s2'.fuel ≤ N; omega)
  have hrun : runV (swapL l F) false (argOf l y) N = .done v sp' (s2'.at (N - (N - s2'.fuel))) := by
    unfold runV playV
    rw [if_neg hd1]
    exact hsh
  have href : refusedV (swapL l F) (argOf l y) (N : Int) = 0 := by
    unfold refusedV
    rw [hcs]
    rw [if_neg (by simp), if_neg (by rw [hal]; simp), if_neg (by omega)]
  refine ⟨s2.tasks, ⟨h.lt, h.le, h.low, h.next, ⟨s2'.depth, sp', ?_⟩⟩⟩
  have e1 : evalV (swapL l F) (argOf l y) (N : Int) = (match runV (swapL l F) false (argOf l y) N with
    | .gave e => (zeroVal, e)
    | .done v sp s => (⟨v, (N : Int) - s.fuel, s.tasks, s.depth, sp⟩, 0)) := by
    unfold evalV
    rw [if_neg (by simpa using href)]
    rfl
  rw [hFn, e1, hrun]
  simp only
  have e2 : (L.drop j).take (s2.tasks - j) = s2.nodes.drop j := by
    apply List.ext_getElem?
    intro q
    rw [List.getElem?_take]
    by_cases hq : q < s2.tasks - j
    · rw [if_pos hq, List.getElem?_drop, List.getElem?_drop]
      exact h.same (j + q) (by omega) (by omega)
    · rw [if_neg hq, List.getElem?_drop, List.getElem?_eq_none (by have := h.len; omega)]
  have e3 : (enterS false (startS N) (rootT (argOf l y))).tasks = 1 := rfl
  have e4 : (enterS true s0 c).tasks = j + 1 := by show s0.tasks + 1 = _; rw [h.tasks]
  rw [e3, e4] at q3
  have hlt := h.lt
  have e5 : (s2'.at (N - (N - s2'.fuel))).fuel = s2'.fuel := by show N - (N - s2'.fuel) = s2'.fuel; omega
  have e6 : (s2'.at (N - (N - s2'.fuel))).tasks = s2'.tasks := rfl
  have e7 : (s2'.at (N - (N - s2'.fuel))).depth = s2'.depth := rfl
  rw [e2, e5, e6, e7, y2]
  have e8 : (N : Int) - (s2'.fuel : Int) = sumW (s2.nodes.drop j) := by omega
  have e9 : (s2'.tasks : Int) = ((s2.tasks - j : Nat) : Int) := by omega
  rw [e8, e9]
/-- Each task of a tree. -/
theorem part_eval {l : List Fn} {zs : List Int} {fuel : Int} (hok : ∀ f ∈ l, f.Ok) (hz : ∀ x ∈ zs, okI x) (he0 : (evalV l zs fuel).2 = 0) (hp : noPed l) : AllV l ∧ (treeV l zs fuel).length ≤ 8388608 ∧ 1 ≤ (treeV l zs fuel).length ∧ (∀ (j : Nat) (y : Nd), (treeV l zs fuel)[j]? = some y → 1 ≤ y.work) ∧ sumW (treeV l zs fuel) ≤ 4194304 ∧ ∀ (j : Nat) (x : Nd), (treeV l zs fuel)[j]? = some x → (0 ≤ x.func ∧ x.func < l.length) ∧ okI x.arg ∧ ((parV l x.func = 0 ∨ parV l x.func = 1) → ∃ e, PartOk l (treeV l zs fuel) j e x fuel.toNat) := by
  have hr0 : refusedV l zs fuel = 0 := by
    by_cases h : refusedV l zs fuel = 0
    · exact h
    · unfold evalV at he0
      rw [if_pos h] at he0
      exact absurd he0 h
  obtain ⟨hcz, hpz, hf0, hf1⟩ := refused_zero hr0
  have hA := allV_of hcz hok
  obtain ⟨F, rfl⟩ := Int.eq_ofNat_of_zero_le hf0
  have hz8 := root_le hA hpz
  have hBg := root_begins hA true hz F (by omega)
  have hbare := run_bare' l zs F
  have hev2 : evalV l zs (F : Int) = (match runV l false zs F with
    | .gave e => (zeroVal, e)
    | .done v sp s => (⟨v, (F : Int) - s.fuel, s.tasks, s.depth, sp⟩, 0)) := by
    unfold evalV
    rw [if_neg (by simpa using hr0)]
    rfl
  rw [hbare] at hev2
  cases hq : runV l true zs F with
  | gave e =>
    rw [hq] at hev2
    have : evalV l zs (F : Int) = (zeroVal, e) := hev2
    rw [this] at he0
    exact absurd he0 (gave_ne hA hBg hq)
  | done v sp s =>
    obtain ⟨D, hW⟩ := run_shape hq
    obtain ⟨_, _, _, h4, h5, _⟩ := child_done hA hBg rfl hq
    have h6 := h5.tasks
    have htv : treeV l zs (F : Int) = s.nodes := by
      unfold treeV
      rw [show (F : Int).toNat = F from rfl, hq]
    rw [htv]
    have hlen := hW.len
    have hgl := hW.good.len
    have hkl : (keys s.nodes).length = s.nodes.length := by simp [keys]
    have hd1 : ¬ 4096 < (rootT zs).depth := by show ¬ (4096 : Int) < 1; decide
    have hrun := hq
    unfold runV playV at hrun
    rw [if_neg hd1] at hrun
    have hti := hBg.tin hd1
    obtain ⟨f2, _, _, hc2, hV2, _⟩ := hA.fn hti.func
    have hargs : ∀ y ∈ s.nodes, okI y.arg := by
      have hao : okI (enterT (startS F) (rootT zs)).node.arg := getD_ok hti.okr 0
      refine loop_args hA _ _ _ 0 (hBg.sin hd1) hti (by rw [hc2]; have := (valid_bounds hV2).2.2.2; omega) v sp s hrun (fun y hy => ?_) hao
      have hy2 : y ∈ [(enterT (startS F) (rootT zs)).node] := hy
      simp at hy2
      rw [hy2]
      exact hao
    refine ⟨hA, by omega, by omega, hW.fin, by have := hW.sum; omega, fun j x hx => ?_⟩
    have hjl := (List.getElem?_eq_some_iff.1 hx).1
    have hfx : 0 ≤ x.func ∧ x.func < l.length := hW.good.func hA j (keyN x) (by simp [keys, hx])
    have hax := hargs x (List.mem_of_getElem? hx)
    refine ⟨hfx, hax, fun hpar => ?_⟩
    by_cases hj : j = 0
    · subst hj
      obtain ⟨y, y1, y2, y3, y4⟩ := run_root hq
      have hsub : Sub l F s.nodes 0 := by
        refine ⟨F + 1, startS F, rootT zs, v, sp, s, hrun, rfl, rfl, ⟨zs, 0, ?_⟩, ⟨Int.le_refl _, by show (1 : Int) ≤ 4096; decide⟩, Nat.le_refl _, by omega, by omega, fun q _ _ => rfl, fun y hy => ?_, ?_, ⟨y, y1, y2, y3, y4⟩, fun q y hq1 hq2 hy => hW.low q y (by omega) hy, hW.len⟩
        · show argsV zs 0 zs.length = argsV zs 0 (parV l 0).toNat
          rw [← hpz]; rfl
        · rw [List.getElem?_eq_none (by omega)] at hy; cases hy
        · rw [List.drop_zero]; exact hW.sum
      exact sub_eval hA hcz hok hp hsub (Nat.le_refl _) (by omega) hx hfx hpar hax
    · exact sub_eval hA hcz hok hp (hW.sub j (by omega) (by omega)) (Nat.le_refl _) (by omega) hx hfx hpar hax
end Go.Proofs.YtfccnmgbdkideaaDoor
/-! Tree. -/
namespace Go.Proofs.YtfccnmgbdkideaaDoor
set_option linter.unusedVariables false
set_option maxRecDepth 20000
open Go.RowKit Go.HeapKit Go.PlainOps

theorem nd_made (T : Nat) (hT : T ≤ 8388608) : ∃ M : Array Value, M.size = T * 7 ∧ ∀ w : World, (Instr.makeSlice 27 (.int .i64 0) (.int .i64 (T : Int))).run Tryd.prog w = .ok (.slice (some ⟨w.heap.size, 0, none⟩) 0 T) (w.alloc (.cells M 33)) := by
  obtain ⟨i0, hi, hz0, hz1, hz2⟩ := info_parts Tryd.infoNd
  refine ⟨madeCells (Value.agg #[.int .i64 0, .int .i64 0, .int .i64 0, .int .i64 0, .int .i64 0, .int .i64 0, .int .i64 0]).cells (T * 7), size_madeCells _ _, fun w => ?_⟩
  have h := run_make (P := Tryd.prog) w 27 33 i0 _ Tryd.underlying27 hi hz0 .i64 .i64 0 (T : Int) (by omega) (by omega) (by rw [hz2]; omega) (by omega)
  rw [hz1] at h
  simpa using h
/-- What Tree hands out. -/
def TreePost (l : List Fn) (zs : List Int) (fuel : Int) (w : World) (e : Ending) (w' : World) : Prop :=
  ∃ nv, e = .returned (.tuple #[nv, .int .i64 (evalV l zs fuel).2]) ∧ Keeps None w w' ∧ (∀ g, nv.ownBlock = some g → w.heap.size ≤ g) ∧
    ((evalV l zs fuel).2 ≠ 0 → nv = .slice none 0 0) ∧ ((evalV l zs fuel).2 = 0 → w'.ownsRow 0 33 7 nv (treeV l zs fuel).length (ndVals (treeV l zs fuel)))
set_option maxHeartbeats 2000000 in
theorem tree_any (a : Option Addr) (n c : Nat) (l : List Fn) (aa : Option Addr) (an ac : Nat) (zs : List Int) (fuel : Int) (w : World) (hT : Tabs w) (hS : SeenF w a n l) (hok : ∀ f ∈ l, f.Ok) (hZ : SeenA w aa an zs) (hZ2 : an ≤ 9223372036854775807) (hfu : okI fuel) :
    Calls Tryd.prog 5 #[.agg #[.slice a n c], .slice aa an ac, .int .i64 fuel] w (TreePost l zs fuel w) := by
  obtain ⟨B, hB⟩ : ∃ B, B = w.heap.size := ⟨_, rfl⟩
  have b1 := heap_alloc_new w (.cells #[.slice a n c] 24)
  have hk1 := Keeps.alloc None w (.cells #[.slice a n c] 24)
  obtain ⟨W, hW⟩ : ∃ W, W = w.alloc (.cells #[.slice a n c] 24) := ⟨_, rfl⟩
  rw [← hW, ← hB] at b1
  rw [← hW] at hk1
  have hev := eval_any a n c l aa an ac zs fuel W (hT.more hk1) (hS.more hk1) hok (hZ.more hk1) hZ2 hfu
  have d0 : W.cell? ⟨B, 0, none⟩ = some (.slice a n c) := (blk_cell b1 0).trans rfl
  have HX : Hid (B = w.heap.size ∧ Keeps None w W ∧ W.heap[B]? = some (.cells #[.slice a n c] 24 (0, 0)) ∧ SeenF w a n l ∧ (∀ f ∈ l, f.Ok) ∧ SeenA w aa an zs) := ⟨hB, hk1, b1, hS, hok, hZ⟩
  by_cases he0 : (evalV l zs fuel).2 = 0
  · have hr0 : refusedV l zs fuel = 0 := by
      by_cases h : refusedV l zs fuel = 0
      · exact h
      · unfold evalV at he0
        rw [if_pos h] at he0
        exact absurd he0 h
    obtain ⟨hcz, hpz, hf0, hf1⟩ := refused_zero hr0
    have hA := allV_of hcz hok
    obtain ⟨F, rfl⟩ := Int.eq_ofNat_of_zero_le hf0
    have hz8 := root_le hA hpz
    have hBg := root_begins hA true hZ.ok F (by omega)
    have hbare := run_bare' l zs F
    obtain ⟨v, sp, s, hrun, hdone⟩ : ∃ v sp s, runV l true zs F = .done v sp s ∧ evalV l zs (F : Int) = (⟨v, (F : Int) - s.fuel, s.tasks, s.depth, sp⟩, 0) := by
      have hev2 : evalV l zs (F : Int) = (match runV l false zs F with
        | .gave e => (zeroVal, e)
        | .done v sp s => (⟨v, (F : Int) - s.fuel, s.tasks, s.depth, sp⟩, 0)) := by
        unfold evalV
        rw [if_neg (by simpa using hr0)]
        rfl
      rw [hbare] at hev2
      cases hq : runV l true zs F with
      | gave e =>
        rw [hq] at hev2
        have : evalV l zs (F : Int) = (zeroVal, e) := hev2
        rw [this] at he0
        have he : e ≠ 0 := gave_ne hA hBg hq
        exact absurd he0 he
      | done v sp s =>
        rw [hq] at hev2
        exact ⟨v, sp, s, rfl, hev2⟩
    obtain ⟨_, _, _, h4, h5, _⟩ := child_done hA hBg rfl hrun
    have htk : s.tasks ≤ 8388608 := by have := h5.tasks; omega
    obtain ⟨M, hMs, hmk⟩ := nd_made s.tasks htk
    have htv : treeV l zs (F : Int) = s.nodes := by
      unfold treeV
      rw [show (F : Int).toNat = F from rfl, hrun]
    have hpl := fun (R : Nat) (nv : Value) (wx : World) (hRx : w.heap.size ≤ R) (hnx : ∀ g, nv.ownBlock = some g → w.heap.size ≤ g) (hkx : Keeps None w wx) (hrx : IsRn wx R (.slice a n c) true (startS F) nv) => play_any l hA true a n c w R F (F + 1) (startS F) (rootT zs) nv wx (Nat.lt_succ_self _) (Nat.le_refl _) hrx ⟨hS, hkx, hRx, hnx⟩ hBg
    have hpl2 : ∀ (R : Nat) (nv : Value) (wx : World) (hRx : w.heap.size ≤ R) (hnx : ∀ g, nv.ownBlock = some g → w.heap.size ≤ g) (hkx : Keeps None w wx) (hrx : IsRn wx R (.slice a n c) true (startS F) nv), Calls Tryd.prog 9 #[.pointer (some ⟨R, 0, none⟩), tkV (rootT zs)] wx (PlaysTo R (.slice a n c) true nv wx (.done v sp s)) := by
      rw [← hrun]
      exact hpl
    have hrt := fun (wx : World) (hkx : Keeps None w wx) => root_any aa an ac zs wx (hZ.more hkx) (by have := hZ.len; omega)
    have HPL : Hid _ := hpl2
    have HRT : Hid _ := hrt
    have HTV : Hid (treeV l zs (F : Int) = s.nodes ∧ evalV l zs (F : Int) = (⟨v, (F : Int) - s.fuel, s.tasks, s.depth, sp⟩, 0) ∧ M.size = s.tasks * 7 ∧ s.tasks ≤ 8388608) := ⟨htv, hdone, hMs, htk⟩
    rw [hdone] at hev
    unfold valC at hev
    simp only at hev
    clear hpl hpl2 hrt htv hBg hbare hrun hdone h4 h5 htk hA hcz hpz hr0 he0 hz8 hT hS hok hZ hk1 b1 hMs
    unfold tkV at HPL HRT
    generalize Value.agg (ints ((rootT zs).l 0 0 0)).toArray = tv at *
    go_enter Tryd.func5, Tryd.ntmps5
    go_upto_region 1 with fail
    rw [← hW, ← hB]
    clear hW hB
    go_upto_region 2 with (go_at_call 7; refine hev.mono ?_; rintro _ w2 ⟨rfl, hk2⟩)
    have e0 := hk2.cell d0 (fun f => f)
    have hal := Keeps.alloc None w2 (.cells #[.int .i64 v, .int .i64 ((F : Int) - s.fuel), .int .i64 s.tasks, .int .i64 s.depth, .int .i64 sp] 38)
    have bV := heap_alloc_new w2 (.cells #[.int .i64 v, .int .i64 ((F : Int) - s.fuel), .int .i64 s.tasks, .int .i64 s.depth, .int .i64 sp] 38)
    obtain ⟨V, hV⟩ : ∃ V, V = w2.alloc (.cells #[.int .i64 v, .int .i64 ((F : Int) - s.fuel), .int .i64 s.tasks, .int .i64 s.depth, .int .i64 sp] 38) := ⟨_, rfl⟩
    obtain ⟨G, hG⟩ : ∃ G, G = w2.heap.size := ⟨_, rfl⟩
    rw [← hV] at hal bV
    rw [← hG] at bV
    rw [← hV, ← hG]
    have f0 := hal.cell e0 (fun f => f)
    have f1 : V.cell? ⟨G, 2, none⟩ = some (.int .i64 s.tasks) := (blk_cell bV 2).trans rfl
    have HV : Hid (Keeps None w V ∧ w.heap.size ≤ V.heap.size) := ⟨(HX.out.2.1.trans hk2 (fun _ f _ => f)).trans hal (fun _ f _ => f), ((HX.out.2.1.trans hk2 (fun _ f _ => f)).trans hal (fun _ f _ => f)).size⟩
    clear hV hG hal bV hk2 e0 d0 hev
    go_upto_region 4 with fail
    go_cut [10] (fun s10 wx => ∃ R g, s10 = .pointer (some ⟨R, 0, none⟩) ∧ w.heap.size ≤ R ∧ w.heap.size ≤ g ∧ IsRn wx R (.slice a n c) true (startS F) (.slice (some ⟨g, 0, none⟩) 0 s.tasks) ∧ Keeps None w wx)
    case first =>
      go_region_held3 (fun w' => w'.cell? ⟨B, 0, none⟩ = some (.slice a n c) ∧ w'.cell? ⟨G, 2, none⟩ = some (.int .i64 s.tasks)) (go_keep) (fail)
      all_goals (go_wp2_with fail; go_meet)
      · obtain ⟨p1, p2⟩ := two_boxes V M #[.slice a n c, .int .i64 F, .int .i64 0, .int .i64 0, .bool true, .slice (some ⟨V.heap.size, 0, none⟩) 0 s.tasks] 33 46
        have hk := keeps2 V (.cells M 33) (.cells #[.slice a n c, .int .i64 F, .int .i64 0, .int .i64 0, .bool true, .slice (some ⟨V.heap.size, 0, none⟩) 0 s.tasks] 46)
        exact ⟨V.heap.size + 1, V.heap.size, rfl, by have := HV.out.2; omega, HV.out.2, ⟨p2, ⟨rfl, .inr ⟨_, s.tasks, M, rfl, Nat.zero_le _, p1, Nat.zero_le _, by have := HTV.out.2.2.2; unfold maxLen; omega, HTV.out.2.2.1, rfl⟩⟩⟩, (HV.out.1.trans hk (fun _ f _ => f)).andDrew⟩
      · obtain ⟨p1, p2⟩ := two_boxes V #[.slice a n c, .int .i64 F, .int .i64 0, .int .i64 0, .bool true, .slice (some ⟨V.heap.size + 1, 0, none⟩) 0 s.tasks] M 46 33
        have hk := keeps2 V (.cells #[.slice a n c, .int .i64 F, .int .i64 0, .int .i64 0, .bool true, .slice (some ⟨V.heap.size + 1, 0, none⟩) 0 s.tasks] 46) (.cells M 33)
        exact ⟨V.heap.size, V.heap.size + 1, rfl, HV.out.2, by have := HV.out.2; omega, ⟨p1, ⟨rfl, .inr ⟨_, s.tasks, M, rfl, Nat.zero_le _, p2, Nat.zero_le _, by have := HTV.out.2.2.2; unfold maxLen; omega, HTV.out.2.2.1, rfl⟩⟩⟩, (HV.out.1.trans hk (fun _ f _ => f)).andDrew⟩
    case rest =>
      obtain ⟨R, g, rfl, hR, hg, hrn, hkc⟩ := hcut
      have hrt := HRT.out wc hkc
      have hpl := fun wx (hx : Keeps None wc wx) => HPL.out R (.slice (some ⟨g, 0, none⟩) 0 s.tasks) wx hR (fun g' e => by simp [Value.ownBlock] at e; omega) (hkc.trans hx (fun _ f _ => f)) (hrn.kept hx (fun _ _ f => f))
      have HPL2 : Hid _ := hpl
      have HC : Hid (w.heap.size ≤ R ∧ w.heap.size ≤ g ∧ Keeps None w wc) := ⟨hR, hg, hkc⟩
      clear hpl HPL HRT hR hg hkc hrn f0 f1 hmk
      go_upto_region 6 with (first | (go_at_call 10; refine hrt.mono ?_; rintro _ w5 ⟨rfl, hk5⟩) | (go_at_call 9; refine (HPL2.out _ hk5).mono ?_; rintro _ w6 ⟨rfl, nv6, hr6, hk6, hm6⟩))
      have g5 : w6.cell? ⟨R, 5, none⟩ = some nv6 := (blk_cell hr6.blk 5).trans rfl
      have hkw : Keeps None w w6 := (HC.out.2.2.trans hk5 (fun _ f _ => f)).trans hk6 (fun i e hi => by rcases e with e | e; have := HC.out.1; omega; simp [Value.ownBlock] at e; have := HC.out.2.1; omega)
      have HQ : Hid (TreePost l zs (F : Int) w (.returned (.tuple #[nv6, .int .i64 0])) w6) := by
        refine ⟨nv6, by rw [HTV.out.2.1], hkw, fun g' e => ?_, fun h => by rw [HTV.out.2.1] at h; exact absurd rfl h, fun _ => by rw [HTV.out.1]; exact hr6.row⟩
        rcases hm6 with h | ⟨g2, e2, h2⟩
        · rw [h] at e
          simp [Value.ownBlock] at e
          have := HC.out.2.1
          omega
        · rw [e2] at e
          obtain rfl := Option.some.inj e
          have := hk5.size
          have := HC.out.2.2.size
          omega
      clear hr6 hk6 hm6 hkw hk5 hrt
      go_wp2_with fail
      go_ret2
      exact HQ.out
  · have heb : ((evalV l zs fuel).2 != 0) = true := by simpa using he0
    have HQ : Hid (∀ w', Keeps None w w' → TreePost l zs fuel w (.returned (.tuple #[.slice none 0 0, .int .i64 (evalV l zs fuel).2])) w') := fun w' hk => ⟨_, rfl, hk, fun g e => by simp [Value.ownBlock] at e, fun _ => rfl, fun h => absurd h he0⟩
    generalize (evalV l zs fuel).2 = er at *
    unfold valC at hev
    generalize (evalV l zs fuel).1 = ev at *
    clear hT hS hok hZ hk1 b1
    go_enter Tryd.func5, Tryd.ntmps5
    go_upto_region 1 with fail
    rw [← hW, ← hB]
    clear hW hB
    go_upto_region 2 with (go_at_call 7; refine hev.mono ?_; rintro _ w2 ⟨rfl, hk2⟩)
    have HK2 : Hid (Keeps None w w2) := HX.out.2.1.trans hk2 (fun _ f _ => f)
    clear hk2 hev
    go_wp2_with fail
    go_ret2
    exact HQ.out _ (HK2.out.andAlloc _)
end Go.Proofs.YtfccnmgbdkideaaDoor
