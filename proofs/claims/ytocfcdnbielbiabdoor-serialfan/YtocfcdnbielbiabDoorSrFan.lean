import Derived.Test.YtocfcdnbielbiabDoorSrStrip
/-! A root with children side by side, plainly. -/
namespace Go.Proofs.YtocfcdnbielbiabDoor
set_option linter.unusedVariables false
set_option maxRecDepth 20000
open Go.RowKit Go.PlainOps

def spI (k : Nat) : Ins := ⟨5, (k : Int), 1, 0, 0⟩
def mvI : Ins := ⟨1, 0, 0, 0, 0⟩
def rootC (K : Nat) : List Ins := (List.range K).map spI ++ [⟨6, 0, 0, 0, 0⟩, ⟨9, 0, 0, 0, 0⟩]
def leafC (M : Nat) : List Ins := List.replicate M mvI ++ [⟨8, 0, 0, 0, 0⟩, ⟨9, 0, 0, 0, 0⟩]
def rootF (K : Nat) : Fn := ⟨0, 1, (K : Int), rootC K⟩
def leafF (M : Nat) : Fn := ⟨0, 1, 0, leafC M⟩
def fanP (K M : Nat) : List Fn := [rootF K, leafF M]
theorem leaf_at {M k : Nat} {i : Ins} (h : (leafC M)[k]? = some i) : (k < M ∧ i = mvI) ∨ (k = M ∧ i = ⟨8, 0, 0, 0, 0⟩) ∨ (k = M + 1 ∧ i = ⟨9, 0, 0, 0, 0⟩) := by
  unfold leafC at h
  by_cases hk : k < M
  · rw [List.getElem?_append_left (by simpa using hk), List.getElem?_replicate, if_pos hk] at h
    exact .inl ⟨hk, (Option.some.inj h).symm⟩
  · rw [List.getElem?_append_right (by simp; omega), List.length_replicate] at h
    have hl := (List.getElem?_eq_some_iff.1 h).1
    simp only [List.length_cons, List.length_nil] at hl
    have : k = M ∨ k = M + 1 := by omega
    rcases this with rfl | rfl
    · rw [Nat.sub_self] at h
      exact .inr (.inl ⟨rfl, (Option.some.inj h).symm⟩)
    · rw [show M + 1 - M = 1 by omega] at h
      exact .inr (.inr ⟨rfl, (Option.some.inj h).symm⟩)
theorem leaf_len (M : Nat) : (leafC M).length = M + 2 := by simp [leafC]
theorem leaf_mv {M k : Nat} (h : k < M) : (leafC M)[k]? = some mvI := by
  unfold leafC
  rw [List.getElem?_append_left (by simpa using h), List.getElem?_replicate, if_pos h]
theorem leaf_p (M : Nat) : (leafC M)[M]? = some ⟨8, 0, 0, 0, 0⟩ := by
  unfold leafC
  rw [List.getElem?_append_right (by simp), List.length_replicate, Nat.sub_self]
  rfl
theorem leaf_r (M : Nat) : (leafC M)[M + 1]? = some ⟨9, 0, 0, 0, 0⟩ := by
  unfold leafC
  rw [List.getElem?_append_right (by simp), List.length_replicate, show M + 1 - M = 1 by omega]
  rfl
theorem firstAt_no {α β : Type} {g : Nat → α → Option β} {l : List α} (h : ∀ j y, l[j]? = some y → g j y = none) : firstAt g l 0 = none := firstAt_none g l 0 (fun j y hy => by rw [Nat.zero_add]; exact h j y hy)
theorem fan_check (K M : Nat) (h1 : 1 ≤ K) (h8 : K ≤ 8) (hM : M ≤ 510) : checkV (fanP K M) = (0, 0, 0) := by
  have ls : shapeV (leafF M) = true := by simp [shapeV, leafF, leaf_len]; omega
  have lc : codeFault false (fanP K M) (leafF M) = none := by
    unfold codeFault
    rw [firstAt_no (fun j i hi => by
      rcases leaf_at hi with ⟨_, rfl⟩ | ⟨_, rfl⟩ | ⟨_, rfl⟩ <;> rfl)]
    have : runsOut (leafF M) = false := by
      unfold runsOut
      have hl : (leafF M).code.length = M + 2 := leaf_len M
      rw [hl, show M + 2 - 1 = M + 1 by omega]
      show (match (leafC M)[M + 1]? with
        | some i => fN i.kind.toNat
        | none => false) = false
      rw [leaf_r]
      rfl
    rw [this]
    rfl
  have lf : slotFault (leafF M) = none := by
    unfold slotFault
    rw [firstAt_no (fun j i hi => by
      have hr : rowV (leafF M) j = [] := rfl
      rcases leaf_at hi with ⟨_, rfl⟩ | ⟨_, rfl⟩ | ⟨_, rfl⟩ <;> (simp only [hr]; rfl))]
    rfl
  have rt : shapeV (rootF K) = true ∧ codeFault false (fanP K M) (rootF K) = none ∧ slotFault (rootF K) = none := by
    have hc : K = 1 ∨ K = 2 ∨ K = 3 ∨ K = 4 ∨ K = 5 ∨ K = 6 ∨ K = 7 ∨ K = 8 := by omega
    rcases hc with rfl | rfl | rfl | rfl | rfl | rfl | rfl | rfl
    all_goals exact ⟨rfl, rfl, rfl⟩
  obtain ⟨r1, r2, r3⟩ := rt
  unfold checkV
  rw [if_neg (by simp [fanP])]
  have a1 : firstAt (fun _ f => if shapeV f = true then none else some ()) (fanP K M) 0 = none := by
    simp [fanP, firstAt, r1, ls]
  have a2 : firstAt (fun _ f => codeFault false (fanP K M) f) (fanP K M) 0 = none := by
    show firstAt (fun _ f => codeFault false (fanP K M) f) [rootF K, leafF M] 0 = none
    simp [firstAt, r2, lc]
  have a3 : firstAt (fun _ f => slotFault f) (fanP K M) 0 = none := by
    simp [fanP, firstAt, r3, lf]
  rw [a1]
  simp only [a2, a3]
theorem fan_okf (K M : Nat) (h8 : K ≤ 8) : ∀ f ∈ fanP K M, f.Ok := by
  intro f hf
  simp [fanP] at hf
  rcases hf with rfl | rfl
  · refine ⟨by simp [rootF, okI], by simp [rootF, okI], by simp [rootF, okI]; omega, fun i hi => ?_⟩
    simp [rootF, rootC, spI] at hi
    rcases hi with ⟨a, ha, rfl⟩ | rfl | rfl
    · exact ⟨by simp [okI], by simp [okI]; omega, by simp [okI], by simp [okI], by simp [okI]⟩
    · exact ⟨by simp [okI], by simp [okI], by simp [okI], by simp [okI], by simp [okI]⟩
    · exact ⟨by simp [okI], by simp [okI], by simp [okI], by simp [okI], by simp [okI]⟩
  · refine ⟨by simp [leafF, okI], by simp [leafF, okI], by simp [leafF, okI], fun i hi => ?_⟩
    simp [leafF, leafC, mvI] at hi
    rcases hi with ⟨_, rfl⟩ | rfl | rfl <;> exact ⟨by simp [okI], by simp [okI], by simp [okI], by simp [okI], by simp [okI]⟩
/-- A leaf from its k-th move on. -/
theorem leaf_run (K M : Nat) : ∀ (r : Nat) (k : Nat) (g : Nat) (s : Rn) (F : Nat) (t : Tk), k + r = M → t.node.func = 1 → 1 ≤ t.regs.length → F + r + 2 < g →
    ∃ v, loopV (fanP K M) false g (Rn.mk (F + r + 2) s.tasks s.depth s.nodes) t k = .done v (t.span + r + 2) (Rn.mk F s.tasks s.depth s.nodes)
  | 0, k, g, s, F, t, hk, hf, hl, hg => by
    obtain ⟨g, rfl⟩ : ∃ g', g = g' + 2 := ⟨g - 2, by omega⟩
    obtain rfl : k = M := by omega
    have c0 : ∀ {t' : Tk}, t'.node.func = t.node.func → codeOf (fanP K k) t'.node.func = leafC k := fun e => by rw [e, hf]; rfl
    rw [loop_comp (g := g + 1) (i := ⟨8, 0, 0, 0, 0⟩) (by show F + 0 + 2 ≠ 0; omega) (by rw [c0 rfl]; exact leaf_p k) (.inr (.inr (.inr (.inr rfl))))]
    rw [loop_ret (g := g) (i := ⟨9, 0, 0, 0, 0⟩) (by show F + 0 + 2 - 1 ≠ 0; omega) (by show (codeOf (fanP K k) t.node.func)[k + 1]? = _; rw [c0 rfl]; exact leaf_r k) rfl]
    refine ⟨(computeT (payT t) ⟨8, 0, 0, 0, 0⟩).regs.getD 0 0, ?_⟩
    show Res.done _ (t.span + 1 + 1) (Rn.mk (F + 0 + 2 - 1 - 1) s.tasks s.depth s.nodes) = Res.done _ (t.span + ((0 : Nat) : Int) + 2) _
    rw [show t.span + 1 + 1 = t.span + ((0 : Nat) : Int) + 2 by omega, show F + 0 + 2 - 1 - 1 = F by omega]
    rfl
  | r + 1, k, g, s, F, t, hk, hf, hl, hg => by
    obtain ⟨g, rfl⟩ : ∃ g', g = g' + 1 := ⟨g - 1, by omega⟩
    have c0 : codeOf (fanP K M) t.node.func = leafC M := by rw [hf]; rfl
    rw [loop_comp (g := g) (i := mvI) (by show F + (r + 1) + 2 ≠ 0; omega) (by rw [c0]; exact leaf_mv (by omega)) (.inr (.inl rfl))]
    obtain ⟨v, hv⟩ := leaf_run K M r (k + 1) g s F (computeT (payT t) mvI) (by omega) hf (by show 1 ≤ (t.regs.set 0 _).length; simpa using hl) (by omega)
    refine ⟨v, ?_⟩
    show loopV (fanP K M) false g (Rn.mk (F + (r + 1) + 2 - 1) s.tasks s.depth s.nodes) (computeT (payT t) mvI) (k + 1) = _
    rw [show F + (r + 1) + 2 - 1 = F + r + 2 by omega, hv]
    show Res.done v (t.span + 1 + (r : Int) + 2) _ = Res.done v (t.span + ((r + 1 : Nat) : Int) + 2) _
    rw [show t.span + 1 + (r : Int) + 2 = t.span + ((r + 1 : Nat) : Int) + 2 by omega]
theorem root_at {K k : Nat} (h : k < K) : (rootC K)[k]? = some (spI k) := by
  unfold rootC
  rw [List.getElem?_append_left (by simpa using h), List.getElem?_map, List.getElem?_range h]
  rfl
theorem root_s (K : Nat) : (rootC K)[K]? = some ⟨6, 0, 0, 0, 0⟩ := by
  unfold rootC
  rw [List.getElem?_append_right (by simp)]
  simp
theorem root_r (K : Nat) : (rootC K)[K + 1]? = some ⟨9, 0, 0, 0, 0⟩ := by
  unfold rootC
  rw [List.getElem?_append_right (by simp)]
  simp [show K + 1 - K = 1 by omega]
/-- The root from its k-th child on. -/
theorem root_run (K M : Nat) : ∀ (r : Nat) (k : Nat) (g : Nat) (s : Rn) (F : Nat) (t : Tk), k + r = K → t.node.func = 0 → t.depth = 1 → t.regs.getD 0 0 = 0 → t.span = k → (0 < k → t.due = k + M + 2) → (k = 0 → t.due = 0) → 1 ≤ K → F + r * (M + 3) + 2 < g →
    loopV (fanP K M) false g (Rn.mk (F + r * (M + 3) + 2) s.tasks s.depth s.nodes) t k = .done 0 (K + M + 4) (Rn.mk F (s.tasks + r) (if r = 0 then s.depth else imax s.depth 2) s.nodes)
  | 0, k, g, s, F, t, hk, hf, hd, hr, hsp, hdu, hd0, hK, hg => by
    obtain ⟨g, rfl⟩ : ∃ g', g = g' + 2 := ⟨g - 2, by omega⟩
    obtain rfl : k = K := by omega
    have c0 : codeOf (fanP k M) t.node.func = rootC k := by rw [hf]; rfl
    rw [loop_sync (g := g + 1) (i := ⟨6, 0, 0, 0, 0⟩) (by show F + 0 * (M + 3) + 2 ≠ 0; omega) (by rw [c0]; exact root_s k) rfl]
    rw [loop_ret (g := g) (i := ⟨9, 0, 0, 0, 0⟩) (by show F + 0 * (M + 3) + 2 - 1 ≠ 0; omega) (by show (codeOf (fanP k M) t.node.func)[k + 1]? = _; rw [c0]; exact root_r k) rfl]
    have e : imax (t.span + 1) (t.due + 1) + 1 = (k : Int) + M + 4 := by
      rw [hsp, hdu (by omega)]
      have : imax ((k : Int) + 1) ((k : Int) + M + 2 + 1) = (k : Int) + M + 2 + 1 := if_pos (by omega)
      rw [this]
      omega
    show Res.done (t.regs.getD 0 0) (imax (t.span + 1) (t.due + 1) + 1) (Rn.mk (F + 0 * (M + 3) + 2 - 1 - 1) s.tasks s.depth s.nodes) = _
    rw [hr, e, show F + 0 * (M + 3) + 2 - 1 - 1 = F by omega]
    rfl
  | r + 1, k, g, s, F, t, hk, hf, hd, hr, hsp, hdu, hd0, hK, hg => by
    have hmul : (r + 1) * (M + 3) = r * (M + 3) + (M + 3) := Nat.succ_mul _ _
    rw [hmul] at hg ⊢
    generalize hQ : r * (M + 3) = Q at *
    obtain ⟨g, rfl⟩ : ∃ g', g = g' + 1 := ⟨g - 1, by omega⟩
    have c0 : codeOf (fanP K M) t.node.func = rootC K := by rw [hf]; rfl
    rw [loop_spawn (g := g) (i := spI k) (by show F + (Q + (M + 3)) + 2 ≠ 0; omega) (by rw [c0]; exact root_at (by omega)) rfl]
    have hpl : ∃ v, playV (fanP K M) false g (payS (Rn.mk (F + (Q + (M + 3)) + 2) s.tasks s.depth s.nodes)) (childV (fanP K M) (payT t) (spI k)) = .done v ((M : Int) + 2) (Rn.mk (F + Q + 2) (s.tasks + 1) (imax s.depth 2) s.nodes) := by
      unfold playV
      have cd : (childV (fanP K M) (payT t) (spI k)).depth = 2 := by show t.depth + 1 = 2; omega
      rw [if_neg (by rw [cd]; omega)]
      obtain ⟨v, hv⟩ := leaf_run K M M 0 g ⟨0, s.tasks + 1, imax s.depth 2, s.nodes⟩ (F + Q + 2) (enterT (payS (Rn.mk (F + (Q + (M + 3)) + 2) s.tasks s.depth s.nodes)) (childV (fanP K M) (payT t) (spI k))) (by omega) rfl (by show 1 ≤ (argsV _ _ _).length; rw [args_len]; omega) (by omega)
      refine ⟨v, ?_⟩
      have es : enterS false (payS (Rn.mk (F + (Q + (M + 3)) + 2) s.tasks s.depth s.nodes)) (childV (fanP K M) (payT t) (spI k)) = Rn.mk (F + Q + 2 + M + 2) (s.tasks + 1) (imax s.depth 2) s.nodes := by
        unfold enterS
        rw [cd]
        show Rn.mk (F + (Q + (M + 3)) + 2 - 1) _ _ _ = _
        rw [show F + (Q + (M + 3)) + 2 - 1 = F + Q + 2 + M + 2 by omega]
        rfl
      rw [es]
      simp only at hv
      rw [hv]
      show Res.done v (0 + (M : Int) + 2) _ = Res.done v ((M : Int) + 2) _
      rw [Int.zero_add]
    obtain ⟨v, hv⟩ := hpl
    rw [hv]
    simp only
    have ih := root_run K M r (k + 1) g ⟨0, s.tasks + 1, imax s.depth 2, s.nodes⟩ F (gotT (spawnT (payT t)) (spI k).a.toNat v ((M : Int) + 2)) (by omega) hf hd hr (by show t.span + 1 = ((k + 1 : Nat) : Int); omega) (fun _ => by
      show imax t.due (t.span + 1 + ((M : Int) + 2)) = _
      have : imax t.due (t.span + 1 + ((M : Int) + 2)) = t.span + 1 + ((M : Int) + 2) := if_pos (by
        by_cases h0 : k = 0
        · rw [hd0 h0]; omega
        · rw [hdu (by omega)]; omega)
      rw [this]
      omega) (fun h => by omega) hK (by rw [hQ]; omega)
    rw [hQ] at ih
    simp only at ih
    rw [ih]
    have e2 : (if r = 0 then imax s.depth 2 else imax (imax s.depth 2) 2) = imax s.depth 2 := by
      by_cases h : r = 0
      · rw [if_pos h]
      · rw [if_neg h]
        have := le_imax s.depth 2
        exact if_neg (by omega)
    rw [e2, if_neg (by omega), show s.tasks + 1 + r = s.tasks + (r + 1) by omega]
theorem fan_eval (K M : Nat) (h1 : 1 ≤ K) (h8 : K ≤ 8) (hM : M ≤ 510) : evalV (fanP K M) [] 4194304 = (⟨0, (K * (M + 3) + 2 : Nat), K + 1, 2, K + M + 4⟩, 0) := by
  have hr : refusedV (fanP K M) [] 4194304 = 0 := by
    unfold refusedV
    rw [fan_check K M h1 h8 hM, if_neg (by simp), if_neg (fun h => h rfl), if_neg (by omega)]
  have hle : K * (M + 3) ≤ 8 * 513 := Nat.mul_le_mul h8 (by omega)
  generalize hQ : K * (M + 3) = Q at *
  have hrun : runV (fanP K M) false [] 4194304 = .done 0 (K + M + 4) (Rn.mk (4194304 - Q - 2) (1 + K) 2 []) := by
    unfold runV playV
    rw [if_neg (by simp [rootT])]
    have h := root_run K M K 0 (4194304 + 1) ⟨0, 1, 1, []⟩ (4194304 - Q - 2) (enterT (startS 4194304) (rootT [])) (by omega) rfl rfl rfl rfl (fun h => by omega) (fun _ => rfl) h1 (by rw [hQ]; omega)
    rw [hQ, show 4194304 - Q - 2 + Q + 2 = 4194304 by omega, if_neg (by omega)] at h
    exact h
  unfold evalV
  rw [hr, if_neg (by simp), show (4194304 : Int).toNat = 4194304 from rfl, hrun]
  show ((⟨0, (4194304 : Int) - ((4194304 - Q - 2 : Nat) : Int), ((1 + K : Nat) : Int), 2, (K : Int) + M + 4⟩ : Val), (0 : Int)) = _
  rw [show (4194304 : Int) - ((4194304 - Q - 2 : Nat) : Int) = ((Q + 2 : Nat) : Int) by omega, show ((1 + K : Nat) : Int) = (K : Int) + 1 by omega]
end Go.Proofs.YtocfcdnbielbiabDoor
