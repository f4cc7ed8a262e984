import Derived.Test.YtafgkehmmfmloaaDoorPkAV
/-! The run of a range of For's program. -/
namespace Go.Proofs.YtafgkehmmfmloaaDoor
set_option linter.unusedVariables false
set_option maxRecDepth 20000
open Go.RowKit Go.PlainOps

section
variable {fs : List Fn} {bf : Int} {w : Nat} {b : Int}
theorem imax_r {x y : Int} (h : x ≤ y) : imax x y = y := by
  unfold imax
  split
  · rfl
  · omega
theorem imax_l {x y : Int} (h : y ≤ x) : imax x y = x := by
  unfold imax
  split
  · omega
  · rfl
theorem on_of {s : Rn} {t t' : Tk} (h : On s t) (s' : Rn) (hn : s'.nodes = s.nodes) (ht : s'.tasks = s.tasks) (h1 : t'.number = t.number) (h2 : key t'.node = key t.node) : On s' t' :=
  ⟨by rw [hn, ht]; exact h.len, by rw [h1]; exact h.num, by show (s'.nodes.map key)[t'.number.toNat]? = _; rw [hn, h1, h2]; exact h.key⟩
/-- Behind a call: more keys, the own one stands. -/
theorem on_more {s s2 : Rn} {t t' : Tk} (h : On s t) (ks : List (Int × Int)) (hk : keys s2 = keys s ++ ks) (hl : s2.nodes.length = s2.tasks) (h1 : t'.number = t.number) (h2 : key t'.node = key t.node) : On s2 t' :=
  ⟨hl, by rw [h1]; exact h.num, by
    rw [hk, h1, h2, List.getElem?_append_left (List.getElem?_eq_some_iff.1 h.key).1]
    exact h.key⟩
def oneK (bf : Int) (lo : Int) (m : Nat) : List (Int × Int) := (List.range m).map (fun j : Nat => (bf, lo + (j : Int)))
theorem oneK_succ (bf lo : Int) (m : Nat) : oneK bf lo (m + 1) = (bf, lo) :: oneK bf (lo + 1) m := by
  unfold oneK
  rw [List.range_succ_eq_map, List.map_cons, List.map_map]
  simp
  intro a _
  omega
theorem oneK_add (bf lo : Int) (m n : Nat) : oneK bf lo (m + n) = oneK bf lo m ++ oneK bf (lo + m) n := by
  induction m generalizing lo with
  | zero => simp [oneK]
  | succ m ih =>
    rw [show m + 1 + n = (m + n) + 1 by omega, oneK_succ, oneK_succ, ih (lo + 1), List.cons_append]
    rw [show lo + 1 + (m : Int) = lo + ((m + 1 : Nat) : Int) by omega]
def LfC (bf : Int) : List Ins := rnC (lfC bf 0 []) (hvC [])
/-- The indices of a leaf, from the k-th instruction 5 on. -/
theorem leaf_for (hb : BodyOk fs bf w b) (hb1 : 1 ≤ b) (hc : codeOf fs 1 = LfC bf) (hp : parV fs bf = 1) (hbf : 0 ≤ bf) : ∀ (m : Nat) (lo : Int) (g F : Nat) (s : Rn) (G sz mo : Int) (sl : List Int) (nd : Nd) (num d k sp du : Int), nd.func = 1 → 1 ≤ m → 0 ≤ lo → lo + m ≤ 1000000 → d + 1 ≤ 4096 → du ≤ sp →
    On s ⟨[], [], nd, num, d, k, sp, du⟩ → F + m * (w + 5) + 1 < g →
    ∃ s2, loopV fs true g { s with fuel := F + m * (w + 5) + 1 } ⟨rr lo (lo + m) G 0 0 0 0 0 sz 1 mo, sl, nd, num, d, k, sp, du⟩ 5 = .done 0 (sp + m * (b + 5) + 1) s2 ∧ s2.fuel = F ∧ s2.nodes.length = s2.tasks ∧ keys s2 = keys s ++ oneK bf lo m
  | 0, lo, g, F, s, G, sz, mo, sl, nd, num, d, k, sp, du, hf, hm, h0, h1, hd, hdu, hon, hg => by omega
  | m + 1, lo, g, F, s, G, sz, mo, sl, nd, num, d, k, sp, du, hf, hm, h0, h1, hd, hdu, hon, hg => by
    have hmul : (m + 1) * (w + 5) = m * (w + 5) + (w + 5) := Nat.succ_mul _ _
    rw [hmul] at hg ⊢
    obtain ⟨Q, hQ⟩ : ∃ Q, Q = m * (w + 5) := ⟨_, rfl⟩
    rw [← hQ] at hg ⊢
    obtain ⟨g, rfl⟩ : ∃ g', g = g' + 5 := ⟨g - 5, by omega⟩
    have c0 : ∀ {nd' : Nd}, nd'.func = nd.func → codeOf fs nd'.func = LfC bf := fun e => by rw [e, hf]; exact hc
    -- the spawn
    rw [loop_spawn (g := g + 4) (i := ⟨5, 0, bf, 0, 0⟩) (by show F + (Q + (w + 5)) + 1 ≠ 0; omega) (by show (codeOf fs nd.func)[5]? = _; rw [c0 rfl]; rfl) rfl]
    obtain ⟨T, hT⟩ : ∃ T, T = (⟨rr lo (lo + ((m + 1 : Nat) : Int)) G 0 0 0 0 0 sz 1 mo, sl, nd, num, d, k, sp, du⟩ : Tk) := ⟨_, rfl⟩
    have hreg : ((childV fs (payT T) ⟨5, 0, bf, 0, 0⟩).regs).getD 0 0 = lo := by
      rw [hT]
      show (argsV (rr lo (lo + ((m + 1 : Nat) : Int)) G 0 0 0 0 0 sz 1 mo) 0 (parV fs bf).toNat).getD 0 0 = lo
      rw [hp]
      rfl
    rw [← hT]
    obtain ⟨v, s2, e1, e2, e3, e4⟩ := hb (g + 4) (F + Q + 5) (payS { s with fuel := F + (Q + (w + 5)) + 1 }) (childV fs (payT T) ⟨5, 0, bf, 0, 0⟩) rfl (by rw [hT]; show (argsV _ _ _).length = 16; exact args_len _ _ _) (by rw [hreg]; unfold okI; omega) rfl rfl (by rw [hT]; show d + 1 ≤ 4096; exact hd) hon.len (by show F + (Q + (w + 5)) + 1 - 1 = _; omega) (by omega)
    rw [e1]
    simp only
    have e4' : keys s2 = keys s ++ [(bf, lo)] := by rw [e4, hreg]; rfl
    have hon2 := on_more (t' := ⟨[], [], nd, num, d, k, sp, du⟩) hon [(bf, lo)] e4' e3 rfl rfl
    -- the sync
    rw [loop_sync (g := g + 3) (i := ⟨6, 0, 0, 0, 0⟩) (by rw [e2]; omega) (by rw [hT]; show (codeOf fs nd.func)[6]? = _; rw [c0 rfl]; rfl) rfl]
    have x1 : waitT (payT (gotT (spawnT (payT T)) (⟨5, 0, bf, 0, 0⟩ : Ins).a.toNat v b)) = ⟨rr lo (lo + ((m + 1 : Nat) : Int)) G 0 0 0 0 0 sz 1 mo, sl.set 0 v, { nd with work := nd.work + 1 + 1 }, num, d, k + 1, sp + b + 2, sp + 1 + b⟩ := by
      rw [hT]
      have y1 : imax du (sp + 1 + b) = sp + 1 + b := imax_r (by omega)
      have y2 : imax (sp + 1 + 1) (sp + 1 + b + 1) = sp + b + 2 := by rw [imax_r (by omega)]; omega
      show (⟨rr lo (lo + ((m + 1 : Nat) : Int)) G 0 0 0 0 0 sz 1 mo, sl.set 0 v, { nd with work := nd.work + 1 + 1 }, num, d, k + 1, imax (sp + 1 + 1) (imax du (sp + 1 + b) + 1), imax du (sp + 1 + b)⟩ : Tk) = _
      rw [y1, y2]
    rw [x1]
    -- lo + 1
    rw [loop_comp (g := g + 2) (i := ⟨2, 0, 0, 9, 0⟩) (by show s2.fuel - 1 ≠ 0; omega) (by show (codeOf fs nd.func)[7]? = _; rw [c0 rfl]; rfl) (.inr (.inr (.inl rfl)))]
    have x2 : computeT (payT ⟨rr lo (lo + ((m + 1 : Nat) : Int)) G 0 0 0 0 0 sz 1 mo, sl.set 0 v, { nd with work := nd.work + 1 + 1 }, num, d, k + 1, sp + b + 2, sp + 1 + b⟩) ⟨2, 0, 0, 9, 0⟩ = ⟨rr (lo + 1) (lo + ((m + 1 : Nat) : Int)) G 0 0 0 0 0 sz 1 mo, sl.set 0 v, { nd with work := nd.work + 1 + 1 + 1 }, num, d, k + 1, sp + b + 2 + 1, sp + 1 + b⟩ := by
      have : wrap64 (lo + 1) = lo + 1 := by unfold wrap64; omega
      show (⟨rr (wrap64 (lo + 1)) (lo + ((m + 1 : Nat) : Int)) G 0 0 0 0 0 sz 1 mo, sl.set 0 v, { nd with work := nd.work + 1 + 1 + 1 }, num, d, k + 1, sp + b + 2 + 1, sp + 1 + b⟩ : Tk) = _
      rw [this]
    rw [x2]
    rw [loop_comp (g := g + 1) (i := ⟨2, 10, 0, 1, 12⟩) (by show s2.fuel - 1 - 1 ≠ 0; omega) (by show (codeOf fs nd.func)[8]? = _; rw [c0 rfl]; rfl) (.inr (.inr (.inl rfl)))]
    have x3 : computeT (payT ⟨rr (lo + 1) (lo + ((m + 1 : Nat) : Int)) G 0 0 0 0 0 sz 1 mo, sl.set 0 v, { nd with work := nd.work + 1 + 1 + 1 }, num, d, k + 1, sp + b + 2 + 1, sp + 1 + b⟩) ⟨2, 10, 0, 1, 12⟩ = ⟨rr (lo + 1) (lo + ((m + 1 : Nat) : Int)) G 0 0 0 0 0 sz 1 (if 1 ≤ m then 1 else 0), sl.set 0 v, { nd with work := nd.work + 1 + 1 + 1 + 1 }, num, d, k + 1, sp + b + 2 + 1 + 1, sp + 1 + b⟩ := by
      show (⟨rr (lo + 1) (lo + ((m + 1 : Nat) : Int)) G 0 0 0 0 0 sz 1 (truthV (decide (lo + 1 < lo + ((m + 1 : Nat) : Int)))), sl.set 0 v, { nd with work := nd.work + 1 + 1 + 1 + 1 }, num, d, k + 1, sp + b + 2 + 1 + 1, sp + 1 + b⟩ : Tk) = _
      by_cases h : 1 ≤ m
      · have h' : lo + 1 < lo + ((m + 1 : Nat) : Int) := by omega
        rw [if_pos h]; simp only [h', decide_true]; rfl
      · have h' : ¬ (lo + 1 < lo + ((m + 1 : Nat) : Int)) := by omega
        rw [if_neg h]; simp only [h', decide_false]; rfl
    rw [x3]
    rw [loop_branch (g := g) (i := ⟨4, 10, 5, 0, 0⟩) (by show s2.fuel - 1 - 1 - 1 ≠ 0; omega) (by show (codeOf fs nd.func)[9]? = _; rw [c0 rfl]; rfl) rfl]
    by_cases h : 1 ≤ m
    · have x4 : (if (if 1 ≤ m then (1 : Int) else 0) = 0 then (9 + 1 : Nat) else 5) = 5 := by rw [if_pos h]; rfl
      obtain ⟨s3, f1, f2, f3, f4⟩ := leaf_for hb hb1 hc hp hbf m (lo + 1) g F s2 G sz 1 (sl.set 0 v) { nd with work := nd.work + 1 + 1 + 1 + 1 + 1 } num d (k + 1) (sp + b + 2 + 1 + 1 + 1) (sp + 1 + b) hf h (by omega) (by omega) hd (by omega) (on_of hon2 s2 rfl rfl rfl rfl) (by rw [← hQ]; omega)
      refine ⟨s3, ?_, f2, f3, ?_⟩
      · show loopV fs true g { s2 with fuel := s2.fuel - 1 - 1 - 1 - 1 } ⟨rr (lo + 1) (lo + ((m + 1 : Nat) : Int)) G 0 0 0 0 0 sz 1 (if 1 ≤ m then 1 else 0), sl.set 0 v, { nd with work := nd.work + 1 + 1 + 1 + 1 + 1 }, num, d, k + 1, sp + b + 2 + 1 + 1 + 1, sp + 1 + b⟩ (if (if 1 ≤ m then (1 : Int) else 0) = 0 then 9 + 1 else 5) = _
        rw [x4, if_pos h, e2, show F + Q + 5 - 1 - 1 - 1 - 1 = F + m * (w + 5) + 1 by omega, show lo + ((m + 1 : Nat) : Int) = lo + 1 + (m : Int) by omega, f1]
        congr 1
        have hmi : ((m + 1 : Nat) : Int) * (b + 5) = (m : Int) * (b + 5) + (b + 5) := by
          rw [show ((m + 1 : Nat) : Int) = (m : Int) + 1 by omega, Int.add_mul, Int.one_mul]
        rw [hmi]
        omega
      · rw [f4, e4', oneK_succ, List.append_assoc]
        rfl
    · have hm0 : m = 0 := by omega
      subst hm0
      have x4 : (if (if 1 ≤ 0 then (1 : Int) else 0) = 0 then (9 + 1 : Nat) else 5) = 10 := rfl
      obtain ⟨g, rfl⟩ : ∃ g', g = g' + 1 := ⟨g - 1, by omega⟩
      show ∃ s3, loopV fs true (g + 1) { s2 with fuel := s2.fuel - 1 - 1 - 1 - 1 } ⟨rr (lo + 1) (lo + ((0 + 1 : Nat) : Int)) G 0 0 0 0 0 sz 1 (if 1 ≤ 0 then 1 else 0), sl.set 0 v, { nd with work := nd.work + 1 + 1 + 1 + 1 + 1 }, num, d, k + 1, sp + b + 2 + 1 + 1 + 1, sp + 1 + b⟩ (if (if 1 ≤ 0 then (1 : Int) else 0) = 0 then 9 + 1 else 5) = _ ∧ _
      rw [x4, e2, loop_ret (g := g) (i := ⟨9, 6, 0, 0, 0⟩) (by show F + Q + 5 - 1 - 1 - 1 - 1 ≠ 0; omega) (by show (codeOf fs nd.func)[10]? = _; rw [c0 rfl]; rfl) rfl]
      obtain ⟨l1, l2, l3⟩ := keys_leave hon2 (endT (payT ⟨rr (lo + 1) (lo + ((0 + 1 : Nat) : Int)) G 0 0 0 0 0 sz 1 (if 1 ≤ 0 then 1 else 0), sl.set 0 v, { nd with work := nd.work + 1 + 1 + 1 + 1 + 1 }, num, d, k + 1, sp + b + 2 + 1 + 1 + 1, sp + 1 + b⟩) 0) rfl rfl (F + Q + 5 - 1 - 1 - 1 - 1 - 1)
      refine ⟨_, ?_, ?_, l2, ?_⟩
      · show Res.done 0 (sp + b + 2 + 1 + 1 + 1 + 1) _ = Res.done 0 (sp + ((0 + 1 : Nat) : Int) * (b + 5) + 1) _
        rw [show sp + b + 2 + 1 + 1 + 1 + 1 = sp + ((0 + 1 : Nat) : Int) * (b + 5) + 1 by rw [show ((0 + 1 : Nat) : Int) = 1 from rfl, Int.one_mul]; omega]
        rfl
      · show F + Q + 5 - 1 - 1 - 1 - 1 - 1 = F
        have : Q = 0 := by rw [hQ]; omega
        omega
      · rw [l1, e4']
        simp [oneK]
/-- The keys of a range: those of the body are its indices, in order. -/
def KsOk (bf lo : Int) (m : Nat) (ks : List (Int × Int)) : Prop := ks.filter (fun x => x.1 == bf) = oneK bf lo m
theorem oneK_filter (bf lo : Int) (m : Nat) : (oneK bf lo m).filter (fun x => x.1 == bf) = oneK bf lo m := by
  apply List.filter_eq_self.2
  intro x hx
  unfold oneK at hx
  obtain ⟨j, _, rfl⟩ := List.mem_map.1 hx
  simp
theorem entered_on {s : Rn} (t : Tk) (hl : s.nodes.length = s.tasks) (F : Nat) : On { (enterS true s t) with fuel := F } (enterT s t) ∧ keys (enterS true s t) = keys s ++ [(t.node.func, t.regs.getD 0 0)] := by
  have hk : keys (enterS true s t) = keys s ++ [(t.node.func, t.regs.getD 0 0)] := by
    show (s.nodes ++ [(enterT s t).node]).map key = s.nodes.map key ++ _
    rw [List.map_append]
    rfl
  refine ⟨⟨?_, ?_, ?_⟩, hk⟩
  · show (s.nodes ++ [(enterT s t).node]).length = s.tasks + 1
    rw [List.length_append, hl]
    rfl
  · show (0 : Int) ≤ (s.tasks : Int)
    omega
  · show (keys (enterS true s t))[((s.tasks : Int)).toNat]? = _
    rw [hk, Int.toNat_natCast, List.getElem?_append_right (by rw [keys_len, hl]; exact Nat.le_refl _), keys_len, hl, Nat.sub_self]
    rfl
theorem wrap_sm {x : Int} (h0 : 0 ≤ x) (h1 : x ≤ 1000000) : wrap64 x = x := by
  unfold wrap64
  omega
theorem half_num (lo : Int) (m : Nat) (h0 : 0 ≤ lo) (h1 : lo + m ≤ 1000000) : wrap64 (lo + quotV (m : Int) 2) = lo + ((m / 2 : Nat) : Int) := by
  have h2 : (m : Int).tdiv 2 = ((m / 2 : Nat) : Int) := by
    rw [Int.tdiv_eq_ediv_of_nonneg (by omega)]
    omega
  have h3 : ((m / 2 : Nat) : Int) ≤ (m : Int) := by omega
  have h4 : quotV (m : Int) 2 = ((m / 2 : Nat) : Int) := by
    unfold quotV
    rw [if_neg (by omega), h2]
    exact wrap_sm (by omega) (by omega)
  have h5 : 0 ≤ ((m / 2 : Nat) : Int) := by omega
  rw [h4]
  clear h2 h4
  generalize ((m / 2 : Nat) : Int) = q at *
  exact wrap_sm (by omega) (by omega)
theorem comp_two (lo hi G z e k2 : Int) (sl : List Int) (nd : Nd) (num d k sp du : Int) : computeT (payT ⟨rr lo hi G 0 e 0 0 0 z 0 1, sl, nd, num, d, k, sp, du⟩) ⟨0, 4, 0, 0, k2⟩ = ⟨rr lo hi G 0 k2 0 0 0 z 0 1, sl, { nd with work := nd.work + 1 }, num, d, k, sp + 1, du⟩ := rfl
theorem comp_div (lo hi G z y : Int) (sl : List Int) (nd : Nd) (num d k sp du : Int) : computeT (payT ⟨rr lo hi G 0 y 0 0 0 z 0 1, sl, nd, num, d, k, sp, du⟩) ⟨2, 4, 8, 4, 3⟩ = ⟨rr lo hi G 0 (quotV z y) 0 0 0 z 0 1, sl, { nd with work := nd.work + 1 }, num, d, k, sp + 1, du⟩ := rfl
theorem comp_mid (lo hi G z y : Int) (sl : List Int) (nd : Nd) (num d k sp du : Int) : computeT (payT ⟨rr lo hi G 0 y 0 0 0 z 0 1, sl, nd, num, d, k, sp, du⟩) ⟨2, 4, 0, 4, 0⟩ = ⟨rr lo hi G 0 (wrap64 (lo + y)) 0 0 0 z 0 1, sl, { nd with work := nd.work + 1 }, num, d, k, sp + 1, du⟩ := rfl
/-- A task of a range, from its beginning on. -/
theorem range_for (hb : BodyOk fs bf w b) (hb1 : 1 ≤ b) (hc : codeOf fs 1 = LfC bf) (hp : parV fs bf = 1) (hp1 : parV fs 1 = 3) (hbf : 2 ≤ bf) {G : Int} (hG : 1 ≤ G) {m W : Nat} {sp : Int} (hr : Rng G w b m W sp) : ∀ (lo : Int) (g F : Nat) (s : Rn) (nd : Nd) (num d : Int), nd.func = 1 → 0 ≤ lo → lo + m ≤ 1000000 → d + m ≤ 4095 →
    On s ⟨[], [], nd, num, d, 0, 0, 0⟩ → F + W < g →
    ∃ s2 ks, loopV fs true g { s with fuel := F + W } ⟨rr lo (lo + m) G 0 0 0 0 0 0 0 0, List.replicate 8 0, nd, num, d, 0, 0, 0⟩ 0 = .done 0 sp s2 ∧ s2.fuel = F ∧ s2.nodes.length = s2.tasks ∧ keys s2 = keys s ++ ks ∧ KsOk bf lo m ks := by
  induction hr with
  | leaf m h1 hm =>
    intro lo g F s nd num d hf h0 hlo hd hon hg
    obtain ⟨g, rfl⟩ : ∃ g', g = g' + 2 + 3 := ⟨g - 5, by omega⟩
    have c0 : ∀ {nd' : Nd}, nd'.func = nd.func → codeOf fs nd'.func = LfC bf := fun e => by rw [e, hf]; exact hc
    have hch := range_choice hc (g + 2) (F + m * (w + 5) + 1 + 2) s lo (lo + m) G m (by omega) (by omega) (List.replicate 8 0) nd num d 0 0 0 hf
    rw [show F + (6 + m * (w + 5)) = F + m * (w + 5) + 1 + 2 + 3 by omega, hch, if_neg (by omega), if_neg (by omega)]
    rw [loop_comp (g := g + 1) (i := ⟨0, 6, 0, 0, 0⟩) (by show F + m * (w + 5) + 1 + 2 ≠ 0; omega) (by show (codeOf fs nd.func)[3]? = _; rw [c0 rfl]; rfl) (.inl rfl)]
    rw [loop_comp (g := g) (i := ⟨0, 9, 0, 0, 1⟩) (by show F + m * (w + 5) + 1 + 2 - 1 ≠ 0; omega) (by show (codeOf fs nd.func)[4]? = _; rw [c0 rfl]; rfl) (.inl rfl)]
    obtain ⟨s2, f1, f2, f3, f4⟩ := leaf_for hb hb1 hc hp (by omega) m lo g F s G m 0 (List.replicate 8 0) { nd with work := nd.work + 1 + 1 + 1 + 1 + 1 } num d 0 (0 + 1 + 1 + 1 + 1 + 1) 0 hf h1 h0 hlo (by omega) (by omega) (on_of hon s rfl rfl rfl rfl) (by omega)
    refine ⟨s2, oneK bf lo m, ?_, f2, f3, f4, oneK_filter _ _ _⟩
    refine Eq.trans ?_ (f1.trans ?_)
    · rfl
    · congr 1
      omega
  | half m W1 W2 s1 s2' hm r1 r2 i1 i2 =>
    intro lo g F s nd num d hf h0 hlo hd hon hg
    obtain ⟨p1, p2, _, _⟩ := rng_pos (by omega) r1
    obtain ⟨q1, q2, _, _⟩ := rng_pos (by omega) r2
    obtain ⟨g, rfl⟩ : ∃ g', g = g' + 10 + 3 := ⟨g - 13, by omega⟩
    have c0 : ∀ {nd' : Nd}, nd'.func = nd.func → codeOf fs nd'.func = LfC bf := fun e => by rw [e, hf]; exact hc
    have hch := range_choice hc (g + 10) (F + W1 + W2 + 10) s lo (lo + m) G m (by omega) (by omega) (List.replicate 8 0) nd num d 0 0 0 hf
    rw [show F + (13 + W1 + W2) = F + W1 + W2 + 10 + 3 by omega, hch, if_pos hm, if_pos hm]
    obtain ⟨X, hX⟩ : ∃ X, X = lo + ((m / 2 : Nat) : Int) := ⟨_, rfl⟩
    -- leftHi := 2; size / 2; lo + that; moves
    rw [loop_comp (g := g + 9) (i := ⟨0, 4, 0, 0, 2⟩) (by show F + W1 + W2 + 10 ≠ 0; omega) (by show (codeOf fs nd.func)[11]? = _; rw [c0 rfl]; rfl) (.inl rfl)]
    rw [loop_comp (g := g + 8) (i := ⟨2, 4, 8, 4, 3⟩) (by show F + W1 + W2 + 10 - 1 ≠ 0; omega) (by show (codeOf fs nd.func)[12]? = _; rw [c0 rfl]; rfl) (.inr (.inr (.inl rfl)))]
    rw [loop_comp (g := g + 7) (i := ⟨2, 4, 0, 4, 0⟩) (by show F + W1 + W2 + 10 - 1 - 1 ≠ 0; omega) (by show (codeOf fs nd.func)[13]? = _; rw [c0 rfl]; rfl) (.inr (.inr (.inl rfl)))]
    have x1 : computeT (payT (computeT (payT (computeT (payT ⟨rr lo (lo + m) G 0 0 0 0 0 m 0 1, List.replicate 8 0, { nd with work := nd.work + 1 + 1 + 1 }, num, d, 0, 0 + 1 + 1 + 1, 0⟩) ⟨0, 4, 0, 0, 2⟩)) ⟨2, 4, 8, 4, 3⟩)) ⟨2, 4, 0, 4, 0⟩ = ⟨rr lo (lo + m) G 0 X 0 0 0 m 0 1, List.replicate 8 0, { nd with work := nd.work + 1 + 1 + 1 + 1 + 1 + 1 }, num, d, 0, 6, 0⟩ := by
      rw [comp_two, comp_div, comp_mid, half_num lo m h0 hlo, ← hX]
      rfl
    rw [x1]
    rw [loop_comp (g := g + 6) (i := ⟨1, 3, 0, 0, 0⟩) (by show F + W1 + W2 + 10 - 1 - 1 - 1 ≠ 0; omega) (by show (codeOf fs nd.func)[14]? = _; rw [c0 rfl]; rfl) (.inr (.inl rfl))]
    rw [loop_comp (g := g + 5) (i := ⟨1, 5, 2, 0, 0⟩) (by show F + W1 + W2 + 10 - 1 - 1 - 1 - 1 ≠ 0; omega) (by show (codeOf fs nd.func)[15]? = _; rw [c0 rfl]; rfl) (.inr (.inl rfl))]
    have x2 : computeT (payT (computeT (payT ⟨rr lo (lo + m) G 0 X 0 0 0 m 0 1, List.replicate 8 0, { nd with work := nd.work + 1 + 1 + 1 + 1 + 1 + 1 }, num, d, 0, 6, 0⟩) ⟨1, 3, 0, 0, 0⟩)) ⟨1, 5, 2, 0, 0⟩ = ⟨rr lo (lo + m) G lo X G 0 0 m 0 1, List.replicate 8 0, { nd with work := nd.work + 1 + 1 + 1 + 1 + 1 + 1 + 1 + 1 }, num, d, 0, 8, 0⟩ := rfl
    rw [x2]
    -- the left half
    rw [loop_spawn (g := g + 4) (i := ⟨5, 0, 1, 3, 0⟩) (by show F + W1 + W2 + 10 - 1 - 1 - 1 - 1 - 1 ≠ 0; omega) (by show (codeOf fs nd.func)[16]? = _; rw [c0 rfl]; rfl) rfl]
    have z1 : childV fs (payT ⟨rr lo (lo + m) G lo X G 0 0 m 0 1, List.replicate 8 0, { nd with work := nd.work + 1 + 1 + 1 + 1 + 1 + 1 + 1 + 1 }, num, d, 0, 8, 0⟩) ⟨5, 0, 1, 3, 0⟩ = ⟨rr lo X G 0 0 0 0 0 0 0 0, List.replicate 8 0, ⟨num, 0, 1, 0, pedV nd.ped 0, 0, 0⟩, 0, d + 1, 0, 0, 0⟩ := by
      show (⟨argsV (rr lo (lo + m) G lo X G 0 0 m 0 1) 3 (parV fs 1).toNat, List.replicate 8 0, ⟨num, 0, 1, 0, pedV nd.ped 0, 0, 0⟩, 0, d + 1, 0, 0, 0⟩ : Tk) = _
      rw [hp1]
      rfl
    obtain ⟨sa, hsa⟩ : ∃ sa : Rn, sa = { s with fuel := F + W1 + W2 + 10 - 1 - 1 - 1 - 1 - 1 - 1 } := ⟨_, rfl⟩
    have e0 : payS (payS (payS (payS (payS (payS { s with fuel := F + W1 + W2 + 10 }))))) = sa := by rw [hsa]; rfl
    have hsl : sa.nodes.length = sa.tasks := by rw [hsa]; exact hon.len
    have hsk : keys sa = keys s := by rw [hsa]; rfl
    have hsf : sa.fuel = F + W2 + 4 + W1 := by rw [hsa]; show F + W1 + W2 + 10 - 1 - 1 - 1 - 1 - 1 - 1 = _; omega
    obtain ⟨Ta, hTa⟩ : ∃ Ta, Ta = (⟨rr lo X G 0 0 0 0 0 0 0 0, List.replicate 8 0, ⟨num, 0, 1, 0, pedV nd.ped 0, 0, 0⟩, 0, d + 1, 0, 0, 0⟩ : Tk) := ⟨_, rfl⟩
    rw [e0, z1, ← hTa]
    unfold playV
    rw [if_neg (by rw [hTa]; show ¬ (4096 : Int) < d + 1; omega)]
    obtain ⟨on1, ky1⟩ := entered_on Ta hsl (F + W2 + 4 + W1)
    have en1 : enterT sa Ta = ⟨rr lo (lo + ((m / 2 : Nat) : Int)) G 0 0 0 0 0 0 0 0, List.replicate 8 0, ⟨num, 0, 1, 0, pedV nd.ped 0, lo, 0⟩, (sa.tasks : Int), d + 1, 0, 0, 0⟩ := by rw [hTa, ← hX]; rfl
    have es1 : enterS true sa Ta = { (enterS true sa Ta) with fuel := F + W2 + 4 + W1 } := by rw [← hsf]; rfl
    obtain ⟨s3, ks1, u1, u2, u3, u4, u5⟩ := i1 lo (g + 4) (F + W2 + 4) (enterS true sa Ta) ⟨num, 0, 1, 0, pedV nd.ped 0, lo, 0⟩ (sa.tasks : Int) (d + 1) rfl h0 (by omega) (by omega) (by
      rw [en1] at on1
      exact on_of on1 (enterS true sa Ta) rfl rfl rfl rfl) (by omega)
    rw [← es1, ← en1] at u1
    rw [u1]
    simp only
    rw [ky1, hsk, hTa] at u4
    have hon3 := on_more (t' := ⟨[], [], nd, num, d, 0, 0, 0⟩) hon ([((1 : Int), lo)] ++ ks1) (by rw [← List.append_assoc]; exact u4) u3 rfl rfl
    -- ownLo := X
    obtain ⟨v0, hv0⟩ : ∃ v0, v0 = (List.replicate 8 (0 : Int)).set 0 0 := ⟨_, rfl⟩
    have x3 : gotT (spawnT (payT ⟨rr lo (lo + m) G lo X G 0 0 m 0 1, List.replicate 8 0, { nd with work := nd.work + 1 + 1 + 1 + 1 + 1 + 1 + 1 + 1 }, num, d, 0, 8, 0⟩)) (⟨5, 0, 1, 3, 0⟩ : Ins).a.toNat 0 s1 = ⟨rr lo (lo + m) G lo X G 0 0 m 0 1, v0, { nd with work := nd.work + 1 + 1 + 1 + 1 + 1 + 1 + 1 + 1 + 1 }, num, d, 0 + 1, 9, imax 0 (9 + s1)⟩ := by rw [hv0]; rfl
    rw [x3]
    obtain ⟨D1, hD1⟩ : ∃ D1, D1 = imax 0 (9 + s1) := ⟨_, rfl⟩
    rw [← hD1]
    rw [loop_comp (g := g + 3) (i := ⟨1, 0, 4, 0, 0⟩) (by rw [u2]; omega) (by show (codeOf fs nd.func)[17]? = _; rw [c0 rfl]; rfl) (.inr (.inl rfl))]
    have x4 : computeT (payT ⟨rr lo (lo + m) G lo X G 0 0 m 0 1, v0, { nd with work := nd.work + 1 + 1 + 1 + 1 + 1 + 1 + 1 + 1 + 1 }, num, d, 0 + 1, 9, D1⟩) ⟨1, 0, 4, 0, 0⟩ = ⟨rr X (lo + m) G lo X G 0 0 m 0 1, v0, { nd with work := nd.work + 1 + 1 + 1 + 1 + 1 + 1 + 1 + 1 + 1 + 1 }, num, d, 1, 10, D1⟩ := rfl
    rw [x4]
    -- the right half
    rw [loop_spawn (g := g + 2) (i := ⟨5, 1, 1, 0, 0⟩) (by show s3.fuel - 1 ≠ 0; omega) (by show (codeOf fs nd.func)[18]? = _; rw [c0 rfl]; rfl) rfl]
    have z2 : childV fs (payT ⟨rr X (lo + m) G lo X G 0 0 m 0 1, v0, { nd with work := nd.work + 1 + 1 + 1 + 1 + 1 + 1 + 1 + 1 + 1 + 1 }, num, d, 1, 10, D1⟩) ⟨5, 1, 1, 0, 0⟩ = ⟨rr X (lo + m) G 0 0 0 0 0 0 0 0, List.replicate 8 0, ⟨num, 1, 1, 0, pedV nd.ped 1, 0, 0⟩, 0, d + 1, 0, 0, 0⟩ := by
      show (⟨argsV (rr X (lo + m) G lo X G 0 0 m 0 1) 0 (parV fs 1).toNat, List.replicate 8 0, ⟨num, 1, 1, 0, pedV nd.ped 1, 0, 0⟩, 0, d + 1, 0, 0, 0⟩ : Tk) = _
      rw [hp1]
      rfl
    obtain ⟨sb, hsb⟩ : ∃ sb : Rn, sb = payS (payS s3) := ⟨_, rfl⟩
    have hsl2 : sb.nodes.length = sb.tasks := by rw [hsb]; exact u3
    have hsk2 : keys sb = keys s3 := by rw [hsb]; rfl
    have hsf2 : sb.fuel = F + 2 + W2 := by rw [hsb]; show s3.fuel - 1 - 1 = _; omega
    obtain ⟨Tb, hTb⟩ : ∃ Tb, Tb = (⟨rr X (lo + m) G 0 0 0 0 0 0 0 0, List.replicate 8 0, ⟨num, 1, 1, 0, pedV nd.ped 1, 0, 0⟩, 0, d + 1, 0, 0, 0⟩ : Tk) := ⟨_, rfl⟩
    rw [z2, ← hTb, ← hsb]
    unfold playV
    rw [if_neg (by rw [hTb]; show ¬ (4096 : Int) < d + 1; omega)]
    obtain ⟨on2, ky2⟩ := entered_on Tb hsl2 (F + 2 + W2)
    have hX2 : X + ((m - m / 2 : Nat) : Int) = lo + m := by rw [hX]; omega
    have en2 : enterT sb Tb = ⟨rr X (X + ((m - m / 2 : Nat) : Int)) G 0 0 0 0 0 0 0 0, List.replicate 8 0, ⟨num, 1, 1, 0, pedV nd.ped 1, X, 0⟩, (sb.tasks : Int), d + 1, 0, 0, 0⟩ := by rw [hTb, hX2]; rfl
    have es2 : enterS true sb Tb = { (enterS true sb Tb) with fuel := F + 2 + W2 } := by rw [← hsf2]; rfl
    obtain ⟨s4, ks2, v1, v2, v3, v4, v5⟩ := i2 X (g + 2) (F + 2) (enterS true sb Tb) ⟨num, 1, 1, 0, pedV nd.ped 1, X, 0⟩ (sb.tasks : Int) (d + 1) rfl (by rw [hX]; omega) (by omega) (by omega) (by
      rw [en2] at on2
      exact on_of on2 (enterS true sb Tb) rfl rfl rfl rfl) (by omega)
    rw [← es2, ← en2] at v1
    rw [v1]
    simp only
    rw [ky2, hsk2, u4, hTb] at v4
    have v4' : keys s4 = keys s ++ ([((1 : Int), lo)] ++ ks1 ++ [((1 : Int), X)] ++ ks2) := by
      rw [v4]
      simp only [List.append_assoc]
      rfl
    have hon4 := on_more (t' := ⟨[], [], nd, num, d, 0, 0, 0⟩) hon _ v4' v3 rfl rfl
    -- the sync and the end
    obtain ⟨v6, hv6⟩ : ∃ v6, v6 = v0.set 1 0 := ⟨_, rfl⟩
    have x5 : gotT (spawnT (payT ⟨rr X (lo + m) G lo X G 0 0 m 0 1, v0, { nd with work := nd.work + 1 + 1 + 1 + 1 + 1 + 1 + 1 + 1 + 1 + 1 }, num, d, 1, 10, D1⟩)) (⟨5, 1, 1, 0, 0⟩ : Ins).a.toNat 0 s2' = ⟨rr X (lo + m) G lo X G 0 0 m 0 1, v6, { nd with work := nd.work + 1 + 1 + 1 + 1 + 1 + 1 + 1 + 1 + 1 + 1 + 1 }, num, d, 2, 11, imax D1 (11 + s2')⟩ := by rw [hv6]; rfl
    rw [x5]
    obtain ⟨D2, hD2⟩ : ∃ D2, D2 = imax D1 (11 + s2') := ⟨_, rfl⟩
    rw [← hD2]
    rw [loop_sync (g := g + 1) (i := ⟨6, 0, 0, 0, 0⟩) (by rw [v2]; omega) (by show (codeOf fs nd.func)[19]? = _; rw [c0 rfl]; rfl) rfl]
    rw [loop_ret (g := g) (i := ⟨9, 6, 0, 0, 0⟩) (by show s4.fuel - 1 ≠ 0; omega) (by show (codeOf fs nd.func)[20]? = _; rw [c0 rfl]; rfl) rfl]
    obtain ⟨l1, l2, l3⟩ := keys_leave hon4 (endT (payT (waitT (payT ⟨rr X (lo + m) G lo X G 0 0 m 0 1, v6, { nd with work := nd.work + 1 + 1 + 1 + 1 + 1 + 1 + 1 + 1 + 1 + 1 + 1 }, num, d, 2, 11, D2⟩))) 0) rfl rfl (s4.fuel - 1 - 1)
    refine ⟨_, _, ?_, ?_, l2, l1.trans v4', ?_⟩
    · rw [hD2, hD1]
      rfl
    · show s4.fuel - 1 - 1 = F
      omega
    · unfold KsOk at u5 v5 ⊢
      have hne : ((1 : Int) == bf) = false := by
        have : (1 : Int) ≠ bf := by omega
        simpa using this
      rw [List.filter_append, List.filter_append, List.filter_append, u5, v5]
      simp only [List.filter_cons, List.filter_nil, hne]
      rw [hX]
      have := oneK_add bf lo (m / 2) (m - m / 2)
      rw [show m / 2 + (m - m / 2) = m by omega] at this
      rw [this]
      simp
end
end Go.Proofs.YtafgkehmmfmloaaDoor
/-! What For's program comes to. -/
namespace Go.Proofs.YtafgkehmmfmloaaDoor
set_option linter.unusedVariables false
set_option maxRecDepth 20000
open Go.RowKit Go.PlainOps

def er (x0 x1 x2 x3 x4 x5 x6 : Int) : List Int := [x0, x1, x2, x3, x4, x5, x6, 0, 0, 0, 0, 0, 0, 0, 0, 0]
section
variable {fs : List Fn} {bf : Int} {w : Nat} {b : Int}
/-- The entry's first four instructions. -/
theorem entry_ahead (he : codeOf fs 0 = entC 0) (g F : Nat) (s : Rn) (n gr : Int) (sl : List Int) (nd : Nd) (num d k : Int) (hf : nd.func = 0) :
    loopV fs true (g + 4) { s with fuel := F + 4 } ⟨er n gr 0 0 0 0 0, sl, nd, num, d, k, 0, 0⟩ 0 = loopV fs true g { s with fuel := F } ⟨er n gr 0 0 0 0 (truthV (decide (n ≤ 0))), sl, { nd with work := nd.work + 1 + 1 + 1 + 1 }, num, d, k, 4, 0⟩ (if n ≤ 0 then 10 else 4) := by
  have c0 : ∀ {nd' : Nd}, nd'.func = nd.func → codeOf fs nd'.func = entC 0 := fun e => by rw [e, hf]; exact he
  rw [loop_comp (g := g + 3) (i := ⟨0, 5, 0, 0, 0⟩) (by show F + 4 ≠ 0; omega) (by show (codeOf fs nd.func)[0]? = _; rw [c0 rfl]; rfl) (.inl rfl)]
  rw [loop_comp (g := g + 2) (i := ⟨0, 2, 0, 0, 0⟩) (by show F + 4 - 1 ≠ 0; omega) (by show (codeOf fs nd.func)[1]? = _; rw [c0 rfl]; rfl) (.inl rfl)]
  rw [loop_comp (g := g + 1) (i := ⟨2, 6, 0, 2, 13⟩) (by show F + 4 - 1 - 1 ≠ 0; omega) (by show (codeOf fs nd.func)[2]? = _; rw [c0 rfl]; rfl) (.inr (.inr (.inl rfl)))]
  rw [loop_branch (g := g) (i := ⟨4, 6, 10, 0, 0⟩) (by show F + 4 - 1 - 1 - 1 ≠ 0; omega) (by show (codeOf fs nd.func)[3]? = _; rw [c0 rfl]; rfl) rfl]
  show loopV fs true g { s with fuel := F + 4 - 1 - 1 - 1 - 1 } ⟨er n gr 0 0 0 0 (truthV (decide (n ≤ 0))), sl, { nd with work := nd.work + 1 + 1 + 1 + 1 }, num, d, k, 0 + 1 + 1 + 1 + 1, 0⟩ (if truthV (decide (n ≤ 0)) = 0 then 3 + 1 else 10) = _
  have e3 : (if truthV (decide (n ≤ 0)) = 0 then (3 + 1 : Nat) else 10) = (if n ≤ 0 then 10 else 4) := by
    by_cases h : n ≤ 0
    · rw [if_pos h]; simp [h, truthV]
    · rw [if_neg h]; simp [h, truthV]
  rw [e3]
  rfl
theorem maxV_one (x : Int) : 1 ≤ maxV x 1 := by
  unfold maxV
  split <;> omega
theorem root_er (n gr : Int) : rootT [n, gr] = ⟨er n gr 0 0 0 0 0, List.replicate 8 0, ⟨-1, 0, 0, 0, 1, 0, 0⟩, 0, 1, 0, 0, 0⟩ := rfl
theorem root_for (n gr : Int) (F : Nat) : runV fs true [n, gr] F = loopV fs true (F + 1) { (enterS true (startS F) (rootT [n, gr])) with fuel := F } ⟨er n gr 0 0 0 0 0, List.replicate 8 0, ⟨-1, 0, 0, 0, 1, n, 0⟩, 0, 1, 0, 0, 0⟩ 0 := by
  unfold runV playV
  rw [if_neg (by simp [rootT])]
  rfl
/-- With no index. -/
theorem for_none (he : codeOf fs 0 = entC 0) (n gr : Int) (hn : n ≤ 0) (F : Nat) : ∃ s2, runV fs true [n, gr] (F + 5) = .done 0 5 s2 ∧ s2.fuel = F ∧ keys s2 = [(0, n)] := by
  obtain ⟨on0, ky0⟩ := entered_on (s := startS (F + 5)) (rootT [n, gr]) rfl (F + 5)
  rw [root_for, show F + 5 + 1 = (F + 2) + 4 by omega, show F + 5 = (F + 1) + 4 by omega, entry_ahead he _ _ _ _ _ _ _ _ _ _ rfl, if_pos hn]
  rw [loop_ret (g := F + 1) (i := ⟨9, 5, 0, 0, 0⟩) (by show F + 1 ≠ 0; omega) (by show (codeOf fs 0)[10]? = _; rw [he]; rfl) rfl]
  obtain ⟨l1, l2, l3⟩ := keys_leave on0 (endT (payT ⟨er n gr 0 0 0 0 (truthV (decide (n ≤ 0))), List.replicate 8 0, ⟨-1, 0, 0, 0 + 1 + 1 + 1 + 1, 1, n, 0⟩, 0, 1, 0, 4, 0⟩) 0) rfl rfl F
  exact ⟨_, rfl, l3, l1.trans ky0⟩
/-- With indices. -/
theorem for_some (hb : BodyOk fs bf w b) (hb1 : 1 ≤ b) (he : codeOf fs 0 = entC 0) (hc : codeOf fs 1 = LfC bf) (hp : parV fs bf = 1) (hp1 : parV fs 1 = 3) (hbf : 2 ≤ bf) (gr : Int) {m W : Nat} {sp : Int} (hm : m ≤ 4000) (hr : Rng (maxV gr 1) w b m W sp) (F : Nat) :
    ∃ s2 ks, runV fs true [(m : Int), gr] (F + W + 11) = .done 0 (sp + 11) s2 ∧ s2.fuel = F ∧ keys s2 = [((0 : Int), (m : Int)), (1, 0)] ++ ks ∧ KsOk bf 0 m ks := by
  obtain ⟨p1, p2, _, _⟩ := rng_pos (by omega) hr
  obtain ⟨G, hG⟩ : ∃ G, G = maxV gr 1 := ⟨_, rfl⟩
  have hG1 : 1 ≤ G := by rw [hG]; exact maxV_one gr
  obtain ⟨on0, ky0⟩ := entered_on (s := startS (F + W + 11)) (rootT [(m : Int), gr]) rfl (F + W + 11)
  obtain ⟨S, hS⟩ : ∃ S, S = enterS true (startS (F + W + 11)) (rootT [(m : Int), gr]) := ⟨_, rfl⟩
  have ky : keys S = [((0 : Int), (m : Int))] := by rw [hS]; exact ky0
  have on : On S ⟨[], [], ⟨-1, 0, 0, 0, 1, (m : Int), 0⟩, 0, 1, 0, 0, 0⟩ := by rw [hS]; exact on_of on0 _ rfl rfl rfl rfl
  rw [root_for, ← hS, show F + W + 11 + 1 = (F + W + 8) + 4 by omega, show F + W + 11 = (F + W + 7) + 4 by omega, entry_ahead he _ _ _ _ _ _ _ _ _ _ rfl, if_neg (by omega)]
  have ht : truthV (decide ((m : Int) ≤ 0)) = 0 := by
    have : ¬ (m : Int) ≤ 0 := by omega
    rw [decide_eq_false this]
    rfl
  rw [ht]
  have c0 : codeOf fs 0 = entC 0 := he
  rw [show F + W + 8 = (F + W + 1) + 7 by omega]
  rw [loop_comp (g := (F + W + 1) + 6) (i := ⟨0, 4, 0, 0, 1⟩) (by show F + W + 7 ≠ 0; omega) (by show (codeOf fs 0)[4]? = _; rw [c0]; rfl) (.inl rfl)]
  rw [loop_comp (g := (F + W + 1) + 5) (i := ⟨2, 4, 1, 4, 11⟩) (by show F + W + 7 - 1 ≠ 0; omega) (by show (codeOf fs 0)[5]? = _; rw [c0]; rfl) (.inr (.inr (.inl rfl)))]
  rw [loop_comp (g := (F + W + 1) + 4) (i := ⟨1, 3, 0, 0, 0⟩) (by show F + W + 7 - 1 - 1 ≠ 0; omega) (by show (codeOf fs 0)[6]? = _; rw [c0]; rfl) (.inr (.inl rfl))]
  have x1 : computeT (payT (computeT (payT (computeT (payT ⟨er (m : Int) gr 0 0 0 0 0, List.replicate 8 0, ⟨-1, 0, 0, 0 + 1 + 1 + 1 + 1, 1, (m : Int), 0⟩, 0, 1, 0, 4, 0⟩) ⟨0, 4, 0, 0, 1⟩)) ⟨2, 4, 1, 4, 11⟩)) ⟨1, 3, 0, 0, 0⟩ = ⟨er (m : Int) gr 0 m G 0 0, List.replicate 8 0, ⟨-1, 0, 0, 7, 1, (m : Int), 0⟩, 0, 1, 0, 7, 0⟩ := by rw [hG]; rfl
  rw [x1]
  rw [loop_spawn (g := (F + W + 1) + 3) (i := ⟨5, 0, 1, 2, 0⟩) (by show F + W + 7 - 1 - 1 - 1 ≠ 0; omega) (by show (codeOf fs 0)[7]? = _; rw [c0]; rfl) rfl]
  have z1 : childV fs (payT ⟨er (m : Int) gr 0 m G 0 0, List.replicate 8 0, ⟨-1, 0, 0, 7, 1, (m : Int), 0⟩, 0, 1, 0, 7, 0⟩) ⟨5, 0, 1, 2, 0⟩ = ⟨rr 0 m G 0 0 0 0 0 0 0 0, List.replicate 8 0, ⟨0, 0, 1, 0, pedV 1 0, 0, 0⟩, 0, 2, 0, 0, 0⟩ := by
    show (⟨argsV (er (m : Int) gr 0 m G 0 0) 2 (parV fs 1).toNat, List.replicate 8 0, ⟨0, 0, 1, 0, pedV 1 0, 0, 0⟩, 0, 2, 0, 0, 0⟩ : Tk) = _
    rw [hp1]
    rfl
  obtain ⟨sa, hsa⟩ : ∃ sa : Rn, sa = { S with fuel := F + W + 7 - 1 - 1 - 1 - 1 } := ⟨_, rfl⟩
  have e0 : payS (payS (payS (payS { S with fuel := F + W + 7 }))) = sa := by rw [hsa]; rfl
  have hsl : sa.nodes.length = sa.tasks := by rw [hsa]; exact on.len
  have hsk : keys sa = keys S := by rw [hsa]; rfl
  have hsf : sa.fuel = F + 3 + W := by rw [hsa]; show F + W + 7 - 1 - 1 - 1 - 1 = _; omega
  obtain ⟨Ta, hTa⟩ : ∃ Ta, Ta = (⟨rr 0 m G 0 0 0 0 0 0 0 0, List.replicate 8 0, ⟨0, 0, 1, 0, pedV 1 0, 0, 0⟩, 0, 2, 0, 0, 0⟩ : Tk) := ⟨_, rfl⟩
  rw [e0, z1, ← hTa]
  unfold playV
  rw [if_neg (by rw [hTa]; show ¬ (4096 : Int) < 2; omega)]
  obtain ⟨on1, ky1⟩ := entered_on Ta hsl (F + 3 + W)
  have en1 : enterT sa Ta = ⟨rr 0 (0 + (m : Int)) G 0 0 0 0 0 0 0 0, List.replicate 8 0, ⟨0, 0, 1, 0, pedV 1 0, 0, 0⟩, (sa.tasks : Int), 2, 0, 0, 0⟩ := by rw [hTa, Int.zero_add]; rfl
  have es1 : enterS true sa Ta = { (enterS true sa Ta) with fuel := F + 3 + W } := by rw [← hsf]; rfl
  rw [← hG] at hr
  obtain ⟨s3, ks1, u1, u2, u3, u4, u5⟩ := range_for hb hb1 hc hp hp1 hbf hG1 hr 0 ((F + W + 1) + 3) (F + 3) (enterS true sa Ta) ⟨0, 0, 1, 0, pedV 1 0, 0, 0⟩ (sa.tasks : Int) 2 rfl (by omega) (by omega) (by omega) (by
    rw [en1] at on1
    exact on_of on1 (enterS true sa Ta) rfl rfl rfl rfl) (by omega)
  rw [← es1, ← en1] at u1
  rw [u1]
  simp only
  rw [ky1, hsk, hTa, ky] at u4
  have u4' : keys s3 = keys S ++ ([((1 : Int), (0 : Int))] ++ ks1) := by rw [u4, ky]; rfl
  have on3 := on_more (t' := ⟨[], [], ⟨-1, 0, 0, 0, 1, (m : Int), 0⟩, 0, 1, 0, 0, 0⟩) on _ u4' u3 rfl rfl
  have x3 : gotT (spawnT (payT ⟨er (m : Int) gr 0 m G 0 0, List.replicate 8 0, ⟨-1, 0, 0, 7, 1, (m : Int), 0⟩, 0, 1, 0, 7, 0⟩)) (⟨5, 0, 1, 2, 0⟩ : Ins).a.toNat 0 sp = ⟨er (m : Int) gr 0 m G 0 0, List.replicate 8 0, ⟨-1, 0, 0, 8, 1, (m : Int), 0⟩, 0, 1, 1, 8, imax 0 (8 + sp)⟩ := rfl
  rw [x3, imax_r (x := 0) (y := 8 + sp) (by omega)]
  rw [loop_sync (g := (F + W + 1) + 2) (i := ⟨6, 0, 0, 0, 0⟩) (by rw [u2]; omega) (by show (codeOf fs 0)[8]? = _; rw [c0]; rfl) rfl]
  have x4 : waitT (payT ⟨er (m : Int) gr 0 m G 0 0, List.replicate 8 0, ⟨-1, 0, 0, 8, 1, (m : Int), 0⟩, 0, 1, 1, 8, 8 + sp⟩) = ⟨er (m : Int) gr 0 m G 0 0, List.replicate 8 0, ⟨-1, 0, 0, 9, 1, (m : Int), 0⟩, 0, 1, 1, 9 + sp, 8 + sp⟩ := by
    show (⟨er (m : Int) gr 0 m G 0 0, List.replicate 8 0, ⟨-1, 0, 0, 9, 1, (m : Int), 0⟩, 0, 1, 1, imax 9 (8 + sp + 1), 8 + sp⟩ : Tk) = _
    rw [imax_r (by omega), show 8 + sp + 1 = 9 + sp by omega]
  rw [x4]
  rw [loop_comp (g := (F + W + 1) + 1) (i := ⟨7, 5, 0, 0, 0⟩) (by show s3.fuel - 1 ≠ 0; omega) (by show (codeOf fs 0)[9]? = _; rw [c0]; rfl) (.inr (.inr (.inr (.inl rfl))))]
  rw [loop_ret (g := F + W + 1) (i := ⟨9, 5, 0, 0, 0⟩) (by show s3.fuel - 1 - 1 ≠ 0; omega) (by show (codeOf fs 0)[10]? = _; rw [c0]; rfl) rfl]
  obtain ⟨l1, l2, l3⟩ := keys_leave on3 (endT (payT (computeT (payT ⟨er (m : Int) gr 0 m G 0 0, List.replicate 8 0, ⟨-1, 0, 0, 9, 1, (m : Int), 0⟩, 0, 1, 1, 9 + sp, 8 + sp⟩) ⟨7, 5, 0, 0, 0⟩)) 0) rfl rfl (s3.fuel - 1 - 1 - 1)
  refine ⟨_, ks1, ?_, ?_, (l1.trans u4').trans (by rw [ky]; rfl), u5⟩
  · show Res.done 0 (9 + sp + 1 + 1) _ = Res.done 0 (sp + 11) _
    rw [show 9 + sp + 1 + 1 = sp + 11 by omega]
    rfl
  · show s3.fuel - 1 - 1 - 1 = F
    omega
end
end Go.Proofs.YtafgkehmmfmloaaDoor
/-! The statements' bodies, plainly. -/
namespace Go.Proofs.YtafgkehmmfmloaaDoor
set_option linter.unusedVariables false
set_option maxRecDepth 20000
open Go.RowKit Go.PlainOps

def atF (op k : Int) : Fn := ⟨1, 2, 0, [⟨0, 1, 0, 0, k⟩, ⟨2, 0, 0, 1, op⟩, ⟨9, 0, 0, 0, 0⟩]⟩
def slowF (r : Int) : Fn := ⟨1, 3, 0, [⟨0, 1, 0, 0, r⟩, ⟨0, 2, 0, 0, 1⟩, ⟨2, 1, 1, 2, 1⟩, ⟨4, 1, 2, 0, 0⟩, ⟨9, 0, 0, 0, 0⟩]⟩
theorem body_of {fs : List Fn} {bf : Int} {w : Nat} {b : Int} (h : ∀ (g F : Nat) (s : Rn) (t : Tk), t.node.func = bf → t.regs.length = 16 → t.span = 0 → t.due = 0 → On s t → F + w < g →
    ∃ v s2, loopV fs true g { s with fuel := F + w } t 0 = .done v b s2 ∧ s2.fuel = F ∧ s2.nodes.length = s2.tasks ∧ keys s2 = keys s) : BodyOk fs bf w b := by
  intro g F s t h1 h2 h3 h4 h5 h6 h7 h8 h9
  obtain ⟨on1, ky1⟩ := entered_on t h7 (F + w)
  have es : enterS true s t = { (enterS true s t) with fuel := F + w } := by rw [← h8]; rfl
  obtain ⟨v, s2, e1, e2, e3, e4⟩ := h g F (enterS true s t) (enterT s t) h1 h2 h4 h5 (on_of on1 _ rfl rfl rfl rfl) h9
  refine ⟨v, s2, ?_, e2, e3, ?_⟩
  · unfold playV
    rw [if_neg (by omega), es]
    exact e1
  · rw [e4, ky1, h1]
theorem done_eq {v v' sp sp' : Int} {s s' : Rn} (h1 : v = v') (h2 : sp = sp') (h3 : s = s') : Res.done v sp s = Res.done v' sp' s' := by rw [h1, h2, h3]
theorem set_get {l : List Int} {n : Nat} {x : Int} (h : n < l.length) : (l.set n x).getD n 0 = x := by simp [h]
theorem set_ne {l : List Int} {n m : Nat} {x : Int} (h : n ≠ m) : (l.set n x).getD m 0 = l.getD m 0 := by simp [h]
theorem at_body {fs : List Fn} {op k : Int} (hc : codeOf fs 2 = (atF op k).code) : BodyOk fs 2 3 3 := by
  refine body_of (fun g F s t hf hl hs hd hon hg => ?_)
  obtain ⟨g, rfl⟩ : ∃ g', g = g' + 3 := ⟨g - 3, by omega⟩
  have c0 : codeOf fs t.node.func = (atF op k).code := by rw [hf]; exact hc
  rw [loop_comp (g := g + 2) (i := ⟨0, 1, 0, 0, k⟩) (by show F + 3 ≠ 0; omega) (by rw [c0]; rfl) (.inl rfl)]
  rw [loop_comp (g := g + 1) (i := ⟨2, 0, 0, 1, op⟩) (by show F + 3 - 1 ≠ 0; omega) (by show (codeOf fs t.node.func)[1]? = _; rw [c0]; rfl) (.inr (.inr (.inl rfl)))]
  rw [loop_ret (g := g) (i := ⟨9, 0, 0, 0, 0⟩) (by show F + 3 - 1 - 1 ≠ 0; omega) (by show (codeOf fs t.node.func)[2]? = _; rw [c0]; rfl) rfl]
  obtain ⟨V, hV⟩ : ∃ V, V = (computeT (payT (computeT (payT t) ⟨0, 1, 0, 0, k⟩)) ⟨2, 0, 0, 1, op⟩).regs.getD (0 : Int).toNat 0 := ⟨_, rfl⟩
  obtain ⟨l1, l2, l3⟩ := keys_leave hon (endT (payT (computeT (payT (computeT (payT t) ⟨0, 1, 0, 0, k⟩)) ⟨2, 0, 0, 1, op⟩)) V) rfl rfl F
  refine ⟨V, _, ?_, l3, l2, l1⟩
  show Res.done ((computeT (payT (computeT (payT t) ⟨0, 1, 0, 0, k⟩)) ⟨2, 0, 0, 1, op⟩).regs.getD (0 : Int).toNat 0) (t.span + 1 + 1 + 1) (leaveS true { s with fuel := F } (endT (payT (computeT (payT (computeT (payT t) ⟨0, 1, 0, 0, k⟩)) ⟨2, 0, 0, 1, op⟩)) ((computeT (payT (computeT (payT t) ⟨0, 1, 0, 0, k⟩)) ⟨2, 0, 0, 1, op⟩).regs.getD (0 : Int).toNat 0))) = _
  rw [← hV, hs]
  rfl
/-- The rounds of the slow one. -/
theorem slow_round {fs : List Fn} {r : Int} (f : Int) (hc : codeOf fs f = (slowF r).code) : ∀ (j : Nat) (g F : Nat) (s : Rn) (t : Tk), t.node.func = f → t.regs.length = 16 → t.regs.getD 1 0 = (j : Int) + 1 → t.regs.getD 2 0 = 1 → j ≤ 1000 → On s t → F + 2 * (j + 1) + 1 < g →
    ∃ s2, loopV fs true g { s with fuel := F + 2 * (j + 1) + 1 } t 2 = .done (t.regs.getD 0 0) (t.span + 2 * (j + 1) + 1) s2 ∧ s2.fuel = F ∧ s2.nodes.length = s2.tasks ∧ keys s2 = keys s
  | j, g, F, s, t, hf, hl, h1, h2, hj, hon, hg => by
    obtain ⟨g, rfl⟩ : ∃ g', g = g' + 2 := ⟨g - 2, by omega⟩
    have c0 : codeOf fs t.node.func = (slowF r).code := by rw [hf]; exact hc
    rw [loop_comp (g := g + 1) (i := ⟨2, 1, 1, 2, 1⟩) (by show F + 2 * (j + 1) + 1 ≠ 0; omega) (by rw [c0]; rfl) (.inr (.inr (.inl rfl)))]
    have x1 : computeT (payT t) ⟨2, 1, 1, 2, 1⟩ = { t with regs := t.regs.set 1 (j : Int), node := { t.node with work := t.node.work + 1 }, span := t.span + 1 } := by
      have hw : wrap64 ((j : Int) + 1 - 1) = (j : Int) := by unfold wrap64; omega
      show ({ t with regs := t.regs.set 1 (wrap64 (t.regs.getD 1 0 - t.regs.getD 2 0)), node := { t.node with work := t.node.work + 1 }, span := t.span + 1 } : Tk) = _
      rw [h1, h2, hw]
    rw [x1]
    rw [loop_branch (g := g) (i := ⟨4, 1, 2, 0, 0⟩) (by show F + 2 * (j + 1) + 1 - 1 ≠ 0; omega) (by show (codeOf fs t.node.func)[3]? = _; rw [c0]; rfl) rfl]
    have x2 : (t.regs.set 1 (j : Int)).getD 1 0 = (j : Int) := set_get (by omega)
    have r0 : (t.regs.set 1 (j : Int)).getD 0 0 = t.regs.getD 0 0 := set_ne (by omega)
    have r2 : (t.regs.set 1 (j : Int)).getD 2 0 = 1 := by rw [set_ne (by omega)]; exact h2
    cases j with
    | zero =>
      have x3 : (if (t.regs.set 1 ((0 : Nat) : Int)).getD 1 0 = 0 then (3 + 1 : Nat) else 2) = 4 := by rw [x2]; rfl
      obtain ⟨g, rfl⟩ : ∃ g', g = g' + 1 := ⟨g - 1, by omega⟩
      show ∃ s2, loopV fs true (g + 1) { s with fuel := F + 2 * (0 + 1) + 1 - 1 - 1 } { t with regs := t.regs.set 1 ((0 : Nat) : Int), node := { t.node with work := t.node.work + 1 + 1 }, span := t.span + 1 + 1 } (if (t.regs.set 1 ((0 : Nat) : Int)).getD 1 0 = 0 then 3 + 1 else 2) = _ ∧ _
      rw [x3, loop_ret (g := g) (i := ⟨9, 0, 0, 0, 0⟩) (by show F + 2 * (0 + 1) + 1 - 1 - 1 ≠ 0; omega) (by show (codeOf fs t.node.func)[4]? = _; rw [c0]; rfl) rfl]
      obtain ⟨l1, l2, l3⟩ := keys_leave hon (endT (payT { t with regs := t.regs.set 1 ((0 : Nat) : Int), node := { t.node with work := t.node.work + 1 + 1 }, span := t.span + 1 + 1 }) ((t.regs.set 1 ((0 : Nat) : Int)).getD 0 0)) rfl rfl F
      refine ⟨_, ?_, l3, l2, l1⟩
      exact done_eq r0 (by show t.span + 1 + 1 + 1 = t.span + 2 * (((0 : Nat) : Int) + 1) + 1; omega) rfl
    | succ j =>
      have x3 : (if (t.regs.set 1 ((j + 1 : Nat) : Int)).getD 1 0 = 0 then (3 + 1 : Nat) else 2) = 2 := by rw [x2, if_neg (by omega)]
      obtain ⟨s2, f1, f2, f3, f4⟩ := slow_round f hc j g F s { t with regs := t.regs.set 1 ((j + 1 : Nat) : Int), node := { t.node with work := t.node.work + 1 + 1 }, span := t.span + 1 + 1 } hf (by simpa using hl) (by show (t.regs.set 1 ((j + 1 : Nat) : Int)).getD 1 0 = _; rw [x2]; omega) r2 (by omega) (on_of hon s rfl rfl rfl rfl) (by omega)
      refine ⟨s2, ?_, f2, f3, f4⟩
      show loopV fs true g { s with fuel := F + 2 * (j + 1 + 1) + 1 - 1 - 1 } { t with regs := t.regs.set 1 ((j + 1 : Nat) : Int), node := { t.node with work := t.node.work + 1 + 1 }, span := t.span + 1 + 1 } (if (t.regs.set 1 ((j + 1 : Nat) : Int)).getD 1 0 = 0 then 3 + 1 else 2) = _
      rw [x3, show F + 2 * (j + 1 + 1) + 1 - 1 - 1 = F + 2 * (j + 1) + 1 by omega, f1]
      show Res.done ((t.regs.set 1 ((j + 1 : Nat) : Int)).getD 0 0) (t.span + 1 + 1 + 2 * ((j : Int) + 1) + 1) s2 = _
      rw [r0, show t.span + 1 + 1 + 2 * ((j : Int) + 1) + 1 = t.span + 2 * (((j + 1 : Nat) : Int) + 1) + 1 by omega]
theorem slow_run {fs : List Fn} (R : Nat) (hR : R ≤ 1000) (f : Int) (hc0 : codeOf fs f = (slowF ((R : Int) + 1)).code) (g F : Nat) (s : Rn) (t : Tk) (hf : t.node.func = f) (hl : t.regs.length = 16) (hs : t.span = 0) (hon : On s t) (hg : F + (2 * R + 5) < g) :
    ∃ s2, loopV fs true g { s with fuel := F + (2 * R + 5) } t 0 = .done (t.regs.getD 0 0) (2 * (R : Int) + 5) s2 ∧ s2.fuel = F ∧ s2.nodes.length = s2.tasks ∧ keys s2 = keys s := by
  obtain ⟨g, rfl⟩ : ∃ g', g = g' + 2 := ⟨g - 2, by omega⟩
  have c0 : codeOf fs t.node.func = (slowF ((R : Int) + 1)).code := by rw [hf]; exact hc0
  rw [loop_comp (g := g + 1) (i := ⟨0, 1, 0, 0, (R : Int) + 1⟩) (by show F + (2 * R + 5) ≠ 0; omega) (by rw [c0]; rfl) (.inl rfl)]
  rw [loop_comp (g := g) (i := ⟨0, 2, 0, 0, 1⟩) (by show F + (2 * R + 5) - 1 ≠ 0; omega) (by show (codeOf fs t.node.func)[1]? = _; rw [c0]; rfl) (.inl rfl)]
  obtain ⟨s2, f1, f2, f3, f4⟩ := slow_round f hc0 R g F s { t with regs := (t.regs.set 1 ((R : Int) + 1)).set 2 1, node := { t.node with work := t.node.work + 1 + 1 }, span := t.span + 1 + 1 } hf (by simpa using hl) (by show ((t.regs.set 1 ((R : Int) + 1)).set 2 1).getD 1 0 = _; rw [set_ne (by omega), set_get (by omega)]) (by show ((t.regs.set 1 ((R : Int) + 1)).set 2 1).getD 2 0 = _; rw [set_get (by simp; omega)]) hR (on_of hon s rfl rfl rfl rfl) (by omega)
  refine ⟨s2, ?_, f2, f3, f4⟩
  refine Eq.trans ?_ (f1.trans ?_)
  · show loopV fs true g { s with fuel := F + (2 * R + 5) - 1 - 1 } _ 2 = loopV fs true g { s with fuel := F + 2 * (R + 1) + 1 } _ 2
    rw [show F + (2 * R + 5) - 1 - 1 = F + 2 * (R + 1) + 1 by omega]
    rfl
  · refine done_eq ?_ ?_ rfl
    · show ((t.regs.set 1 ((R : Int) + 1)).set 2 1).getD 0 0 = _
      rw [set_ne (by omega), set_ne (by omega)]
    · show t.span + 1 + 1 + 2 * ((R : Int) + 1) + 1 = 2 * (R : Int) + 5
      omega
theorem slow_body {fs : List Fn} (R : Nat) (hR : R ≤ 1000) (hc : codeOf fs 2 = (slowF ((R : Int) + 1)).code) : BodyOk fs 2 (2 * R + 5) (2 * (R : Int) + 5) :=
  body_of (fun g F s t hf hl hs hd hon hg => by
    obtain ⟨s2, h1, h2, h3, h4⟩ := slow_run R hR 2 hc g F s t hf hl hs hon hg
    exact ⟨_, s2, h1, h2, h3, h4⟩)
/-! ### What the programs are -/
theorem slow_check (r : Int) : checkV [slowF r] = (0, 0, 0) := by rfl
theorem slowfor_check (r : Int) : checkV (forP [slowF r] 0) = (0, 0, 0) := by rfl
theorem at_check (op k : Int) (h0 : 0 ≤ op) (h1 : op < 16) : checkV [atF op k] = (0, 0, 0) := by
  have hc : op = 0 ∨ op = 1 ∨ op = 2 ∨ op = 3 ∨ op = 4 ∨ op = 5 ∨ op = 6 ∨ op = 7 ∨ op = 8 ∨ op = 9 ∨ op = 10 ∨ op = 11 ∨ op = 12 ∨ op = 13 ∨ op = 14 ∨ op = 15 := by omega
  rcases hc with rfl | rfl | rfl | rfl | rfl | rfl | rfl | rfl | rfl | rfl | rfl | rfl | rfl | rfl | rfl | rfl <;> rfl
theorem atfor_check (op k : Int) (h0 : 0 ≤ op) (h1 : op < 16) : checkV (forP [atF op k] 0) = (0, 0, 0) := by
  have hc : op = 0 ∨ op = 1 ∨ op = 2 ∨ op = 3 ∨ op = 4 ∨ op = 5 ∨ op = 6 ∨ op = 7 ∨ op = 8 ∨ op = 9 ∨ op = 10 ∨ op = 11 ∨ op = 12 ∨ op = 13 ∨ op = 14 ∨ op = 15 := by omega
  rcases hc with rfl | rfl | rfl | rfl | rfl | rfl | rfl | rfl | rfl | rfl | rfl | rfl | rfl | rfl | rfl | rfl <;> rfl
end Go.Proofs.YtafgkehmmfmloaaDoor
/-! ParlibLog and ParlibOnce, plainly. -/
namespace Go.Proofs.YtafgkehmmfmloaaDoor
set_option linter.unusedVariables false
set_option maxRecDepth 20000
open Go.RowKit Go.PlainOps

theorem unrefused {fs : List Fn} {zs : List Int} {F : Nat} (hc : checkV fs = (0, 0, 0)) (hp : ((zs.length : Int)) = parV fs 0) (hF : F ≤ 4194304) : refusedV fs zs (F : Int) = 0 := by
  unfold refusedV
  rw [hc, if_neg (by simp), if_neg (by simpa using hp), if_neg (by omega)]
theorem eval_of {fs : List Fn} {zs : List Int} {F : Nat} {v sp : Int} {s : Rn} (hr : refusedV fs zs (F : Int) = 0) (h : runV fs true zs F = .done v sp s) : evalV fs zs (F : Int) = (⟨v, (F : Int) - s.fuel, s.tasks, s.depth, sp⟩, 0) := by
  unfold evalV
  rw [hr, if_neg (by simp), Int.toNat_natCast, run_bare', h]
  rfl
/-- One run of the slow body. -/
theorem slow_one (R : Nat) (hR : R ≤ 1000) (x : Int) : ∃ d : Int, ∃ q : Int, evalV [slowF ((R : Int) + 1)] [x] 10000 = (⟨x, 2 * (R : Int) + 5, q, d, 2 * (R : Int) + 5⟩, 0) := by
  obtain ⟨on0, ky0⟩ := entered_on (s := startS 10000) (rootT [x]) rfl 10000
  obtain ⟨s2, h1, h2, h3, h4⟩ := slow_run (fs := [slowF ((R : Int) + 1)]) R hR 0 rfl 10001 (10000 - (2 * R + 5)) (enterS true (startS 10000) (rootT [x])) (enterT (startS 10000) (rootT [x])) rfl rfl rfl (on_of on0 _ rfl rfl rfl rfl) (by omega)
  have hrun : runV [slowF ((R : Int) + 1)] true [x] 10000 = .done x (2 * (R : Int) + 5) s2 := by
    unfold runV playV
    rw [if_neg (by simp [rootT])]
    rw [show 10000 - (2 * R + 5) + (2 * R + 5) = 10000 by omega] at h1
    exact h1
  have he := eval_of (unrefused (slow_check _) rfl (by omega)) hrun
  refine ⟨s2.depth, s2.tasks, ?_⟩
  rw [show ((10000 : Nat) : Int) = 10000 from rfl] at he
  rw [he, h2, show (10000 : Int) - ((10000 - (2 * R + 5) : Nat) : Int) = 2 * (R : Int) + 5 by omega]
theorem rng_log {w : Nat} {b : Int} (hb : 0 ≤ b) : ∀ (k : Nat) (m W : Nat) (sp : Int), m = 2 ^ k → Rng 1 w b m W sp → sp ≤ 13 * (k : Int) + b + 11
  | 0, m, W, sp, hm, h => by
    cases h with
    | leaf _ h1 h2 =>
      have : m = 1 := by simpa using hm
      subst this
      omega
    | half _ W1 W2 s1 s2 h1 r1 r2 => omega
  | k + 1, m, W, sp, hm, h => by
    have hp : 2 ^ (k + 1) = 2 * 2 ^ k := by rw [Nat.pow_succ]; omega
    have h0 : 0 < 2 ^ k := Nat.pow_pos (by omega)
    cases h with
    | leaf _ h1 h2 => omega
    | half _ W1 W2 s1 s2 h1 r1 r2 =>
      have i1 := rng_log hb k _ W1 s1 (by omega) r1
      have i2 := rng_log hb k _ W2 s2 (by omega) r2
      unfold imax
      repeat' split
      all_goals omega
theorem forP_codes (f : Fn) : codeOf (forP [f] 0) 0 = entC 0 ∧ codeOf (forP [f] 0) 1 = LfC 2 ∧ codeOf (forP [f] 0) 2 = f.code.map shI ∧ parV (forP [f] 0) 1 = 3 ∧ parV (forP [f] 0) 2 = f.params ∧ parV (forP [f] 0) 0 = 2 := ⟨rfl, rfl, rfl, rfl, rfl, rfl⟩
/-- The logarithm. -/
theorem log_ok (R k : Nat) (hR : R < 300) (hk : k < 8) : ∃ W T d sp : Int, evalV (forP [slowF ((R : Int) + 1)] 0) [((2 ^ k : Nat) : Int), 1] 1000000 = (⟨0, W, T, d, sp⟩, 0) ∧ ((2 ^ k : Nat) : Int) * (2 * (R : Int) + 5) ≤ W ∧ sp ≤ 40 + 40 * (k : Int) + 40 + (2 * (R : Int) + 5) := by
  obtain ⟨q1, q2, q3, q4, q5, q6⟩ := forP_codes (slowF ((R : Int) + 1))
  have hpow : 2 ^ k ≤ 128 := by
    have : 2 ^ k ≤ 2 ^ 7 := Nat.pow_le_pow_right (by omega) (by omega)
    omega
  have h0 : 0 < 2 ^ k := Nat.pow_pos (by omega)
  obtain ⟨m, hm⟩ : ∃ m, m = 2 ^ k := ⟨_, rfl⟩
  rw [← hm] at hpow h0 ⊢
  obtain ⟨W, sp, hr⟩ := rng_all 1 (2 * R + 5) (2 * (R : Int) + 5) (by omega) m m (Nat.le_refl _) h0
  obtain ⟨p1, p2, p3, p4⟩ := rng_pos (by omega) hr
  have p5 : m * (2 * R + 5 + 24) ≤ 128 * 629 := Nat.mul_le_mul hpow (by omega)
  have hl := rng_log (by omega) k m W sp hm hr
  obtain ⟨s2, ks, e1, e2, e3, e4⟩ := for_some (slow_body R (by omega) q3) (by omega) q1 q2 q5 q4 (by omega) 1 (by omega) (W := W) (sp := sp) hr (1000000 - W - 11)
  rw [show 1000000 - W - 11 + W + 11 = 1000000 by omega] at e1
  have he := eval_of (unrefused (slowfor_check _) (by rw [q6]; rfl) (by omega)) e1
  rw [show ((1000000 : Nat) : Int) = 1000000 from rfl] at he
  refine ⟨(1000000 : Int) - s2.fuel, s2.tasks, s2.depth, sp + 11, he, ?_, by omega⟩
  rw [e2]
  have : ((m * (2 * R + 5) : Nat) : Int) ≤ (W : Int) := by omega
  rw [Int.natCast_mul] at this
  rw [show ((2 * R + 5 : Nat) : Int) = 2 * (R : Int) + 5 by omega] at this
  omega
/-- Once each. -/
theorem once_ok (op k gr : Int) (n : Nat) (h0 : 0 ≤ op) (h1 : op < 16) (hn : n ≤ 100) : ∃ W T d sp : Int, evalV (forP [atF op k] 0) [(n : Int), gr] 100000 = (⟨0, W, T, d, sp⟩, 0) ∧ ((treeV (forP [atF op k] 0) [(n : Int), gr] 100000).map key).filter (fun x => x.1 == 2) = oneK 2 0 n := by
  obtain ⟨q1, q2, q3, q4, q5, q6⟩ := forP_codes (atF op k)
  have hrf := unrefused (zs := [(n : Int), gr]) (F := 100000) (atfor_check op k h0 h1) (by rw [q6]; rfl) (by omega)
  have fin : ∀ (sp : Int) (s2 : Rn) (ks : List (Int × Int)), runV (forP [atF op k] 0) true [(n : Int), gr] 100000 = .done 0 sp s2 → keys s2 = ks → ks.filter (fun x => x.1 == 2) = oneK 2 0 n → ∃ W T d sp : Int, evalV (forP [atF op k] 0) [(n : Int), gr] 100000 = (⟨0, W, T, d, sp⟩, 0) ∧ ((treeV (forP [atF op k] 0) [(n : Int), gr] 100000).map key).filter (fun x => x.1 == 2) = oneK 2 0 n := fun sp s2 ks e1 e3 e4 => by
    have he := eval_of hrf e1
    rw [show ((100000 : Nat) : Int) = 100000 from rfl] at he
    refine ⟨_, _, _, _, he, ?_⟩
    have ht : treeV (forP [atF op k] 0) [(n : Int), gr] 100000 = s2.nodes := by
      unfold treeV
      rw [show (100000 : Int).toNat = 100000 from rfl, e1]
    rw [ht]
    show (keys s2).filter _ = _
    rw [e3, e4]
  by_cases hz : n = 0
  · subst hz
    obtain ⟨s2, e1, e2, e3⟩ := for_none (fs := forP [atF op k] 0) q1 ((0 : Nat) : Int) gr (by omega) 99995
    exact fin 5 s2 _ e1 e3 rfl
  · obtain ⟨W, sp, hr⟩ := rng_all (maxV gr 1) 3 3 (maxV_one gr) n n (Nat.le_refl _) (by omega)
    obtain ⟨p1, p2, p3, p4⟩ := rng_pos (by omega) hr
    obtain ⟨s2, ks, e1, e2, e3, e4⟩ := for_some (at_body q3) (by omega) q1 q2 q5 q4 (by omega) gr (by omega) (W := W) (sp := sp) hr (100000 - W - 11)
    rw [show 100000 - W - 11 + W + 11 = 100000 by omega] at e1
    refine fin _ s2 _ e1 e3 ?_
    rw [List.filter_append, e4]
    rfl
end Go.Proofs.YtafgkehmmfmloaaDoor
