import Derived.Test.YtdiabpoafennlaaHyMem
import Derived.Lib.SliceRun
import Derived.Deep.RegionLaw
import Derived.Shelf.RegionOpenPlain
import Derived.Deep.RegionHeld3
import Derived.Deep.DeepCutAuto
/-! slices.Delete of one number of a row. -/
namespace Go.Proofs.Ytdiabpoafennlaa
set_option linter.unusedVariables false
set_option maxRecDepth 20000
set_option linter.unusedSimpArgs false
open Go.RowKit Go.HeapKit Go.IntWalk

def setsFrom (w : World) (g : Nat) : Nat → List Value → World
  | _, [] => w
  | i, v :: vs => setsFrom (w.setCell ⟨g, i, none⟩ v) g (i + 1) vs
theorem setsFrom_keeps (g : Nat) : ∀ (vs : List Value) (i : Nat) (w : World), Keeps (· = g) w (setsFrom w g i vs)
  | [], _, _ => Keeps.refl _ _
  | v :: vs, i, w => (Keeps.setCell (S := (· = g)) w (a := ⟨g, i, none⟩) rfl v).trans (setsFrom_keeps g vs (i + 1) _) (fun _ f _ => f)
theorem setsFrom_block (g : Nat) (t : TypeId) : ∀ (vs : List Value) (i : Nat) (w : World) (c : Array Value), w.heap[g]? = some (.cells c t (0, 0)) → i + vs.length ≤ c.size →
    ∃ c', (setsFrom w g i vs).heap[g]? = some (.cells c' t (0, 0)) ∧ c'.toList = c.toList.take i ++ vs ++ c.toList.drop (i + vs.length)
  | [], i, w, c, hb, _ => ⟨c, hb, by simp⟩
  | v :: vs, i, w, c, hb, hl => by
    simp only [List.length_cons] at hl
    obtain ⟨c', h1, h2⟩ := setsFrom_block g t vs (i + 1) (w.setCell ⟨g, i, none⟩ v) (c.setIfInBounds i v) (blk_set hb v) (by simp; omega)
    refine ⟨c', h1, h2.trans ?_⟩
    rw [Array.toList_setIfInBounds]
    have hi : i < c.toList.length := by simp; omega
    have e1 : (c.toList.set i v).take (i + 1) = c.toList.take i ++ [v] := by
      rw [List.set_eq_take_append_cons_drop, if_pos hi, List.take_append]
      have : (c.toList.take i).length = i := by simp; omega
      rw [List.take_of_length_le (by omega), this]
      simp
    have e2 : (c.toList.set i v).drop (i + 1 + vs.length) = c.toList.drop (i + (v :: vs).length) := by
      rw [List.drop_set_of_lt (by omega)]
      simp only [List.length_cons]
      congr 1
      omega
    rw [e1, e2]
    simp
theorem own_sets {w : World} {base : Nat} {e : TypeId} {s g n cap : Nat} {xs : List Value} (h : w.ownsRow base e s (.slice (some ⟨g, 0, none⟩) n cap) n xs) (k : Nat) (vs : List Value) (hk : k + vs.length ≤ n * s) :
    (setsFrom w g k vs).ownsRow base e s (.slice (some ⟨g, 0, none⟩) n cap) n (xs.take k ++ vs ++ xs.drop (k + vs.length)) := by
  rcases h.2 with ⟨h0, _⟩ | ⟨g', cap', cur, he, hb, hg, hn, hm, hcs, ht⟩
  · cases h0
  · injection he with e1 e2 e3
    injection e1 with e1
    injection e1 with e1
    subst e1 e3
    have hle : n * s ≤ cap * s := Nat.mul_le_mul_right _ hn
    obtain ⟨c', h1, h2⟩ := setsFrom_block g e vs k w cur hg (by rw [hcs]; omega)
    have hxl : xs.length = n * s := by rw [← ht]; simp; omega
    have hcl : cur.toList.length = cap * s := by simpa using hcs
    refine ⟨by simp only [List.length_append, List.length_take, List.length_drop]; omega, .inr ⟨g, cap, c', rfl, hb, h1, hn, hm, ?_, ?_⟩⟩
    · have := congrArg List.length h2
      simp only [List.length_append, List.length_take, List.length_drop, hcl, Array.length_toList] at this
      omega
    · rw [h2, ← ht]
      apply List.ext_getElem?
      intro i
      simp only [List.getElem?_take, List.getElem?_append, List.length_append, List.length_take, List.getElem?_drop, hcl]
      have e1 : min k (min (n * s) (cap * s)) = k := by omega
      have e2 : min k (cap * s) = k := by omega
      have e3 : min (n * s) (cap * s) = n * s := by omega
      simp only [e2, e3]
      have e4 : min k (n * s) = k := by omega
      simp only [e4]
      by_cases a1 : i < n * s
      · by_cases a2 : i < k + vs.length
        · by_cases a3 : i < k
          · simp [a1, a2, a3]
          · simp [a1, a2, a3]
        · have a4 : k + vs.length + (i - (k + vs.length)) < n * s := by omega
          simp [a1, a2, a4]
      · have a2 : ¬ i < k + vs.length := by omega
        have a4 : ¬ k + vs.length + (i - (k + vs.length)) < n * s := by omega
        simp [a1, a2, a4]
theorem setsFrom_eq (g : Nat) : ∀ (vs : List Value) (i : Nat) (w : World), w.setCells g i vs = setsFrom w g i vs
  | [], _, _ => rfl
  | _ :: vs, i, _ => setsFrom_eq g vs (i + 1) _
def zeroAct : List Value := [.int .i64 0]
theorem clear_act (W : World) (ty : TypeId) (g o c : Nat) (hc : ∀ j, j < 1 → (W.cell? ⟨g, o + j, none⟩).isSome = true) (hf : ∀ j, j < 1 → W.frozen? ⟨g, o + j, none⟩ = false) :
    (Builtin.clear_ #[24] ty #[.slice (some ⟨g, o, none⟩) 1 c]).run Try.prog W = .ok (.tuple #[]) (W.setCells g o zeroAct) := by
  have hzc : (Builtin.zeroCells (Value.int .i64 0).cells 1).toList = zeroAct := by kernel_rfl
  have hst := run_storeCells_cells (P := Try.prog) g o zeroAct 0 W (by intro j hj; exact hc j hj) (by intro j hj; exact hf j hj) (by intro v hv; simp [zeroAct] at hv; subst hv; rfl)
  simp only [Nat.add_zero] at hst
  simp [Builtin.clear_, run_underlying Try.underlying24, hzc, hst]
theorem Try.infoAct : (Try.prog.info? 3).map (fun i => i.size) = some 1 := by kernel_rfl
theorem erase_vals (l : List Int) (i : Nat) (hi : i < l.length) : iv (l.eraseIdx i) = (iv l).take (i * 1) ++ (iv l).drop ((i + 1) * 1) := by
  rw [Nat.mul_one, Nat.mul_one, iv, iv, List.eraseIdx_eq_take_drop_succ, List.map_append, List.map_take, List.map_drop]
theorem iv_length1 (l : List Int) : (iv l).length = l.length * 1 := by rw [iv_len, Nat.mul_one]
/-- The row behind the two writes of Delete. -/
theorem own_del {w : World} {base : Nat} {g n c i : Nat} {l : List Int} (h : w.ownsRow base 3 1 (.slice (some ⟨g, 0, none⟩) n c) n (iv l)) (hl : l.length = n) (hi : i < n) :
    (setsFrom (setsFrom w.drew g (i * 1) ((iv l).drop ((i + 1) * 1))) g ((n - 1) * 1) zeroAct).ownsRow base 3 1 (.slice (some ⟨g, 0, none⟩) (n - 1) c) (n - 1) (iv (l.eraseIdx i)) := by
  have hx : (iv l).length = n * 1 := by rw [iv_length1, hl]
  have hd : w.drew.ownsRow base 3 1 (.slice (some ⟨g, 0, none⟩) n c) n (iv l) := h
  have hdl : ((iv l).drop ((i + 1) * 1)).length = n * 1 - (i + 1) * 1 := by rw [List.length_drop, hx]
  have h1 := own_sets hd (i * 1) ((iv l).drop ((i + 1) * 1)) (by rw [hdl]; omega)
  have hz : zeroAct.length = 1 := rfl
  have h2 := own_sets h1 ((n - 1) * 1) zeroAct (by rw [hz]; omega)
  have he := erase_vals l i (by omega)
  have hel : (iv (l.eraseIdx i)).length = (n - 1) * 1 := by rw [iv_length1, List.length_eraseIdx]; rw [if_pos (by omega), hl]
  generalize setsFrom (setsFrom w.drew g (i * 1) ((iv l).drop ((i + 1) * 1))) g ((n - 1) * 1) zeroAct = W at h2
  rcases h2.2 with ⟨h0, _⟩ | ⟨g', cap', cur, e, hb, hg, hn, hm, hcs, ht⟩
  · cases h0
  · injection e with e1 e2 e3
    injection e1 with e1
    injection e1 with e1
    subst e1 e3
    refine ⟨hel, .inr ⟨g, c, cur, rfl, hb, hg, by omega, hm, hcs, ?_⟩⟩
    have hmin : List.take ((n - 1) * 1) cur.toList = List.take ((n - 1) * 1) (List.take (n * 1) cur.toList) := by rw [List.take_take]; congr 1; omega
    rw [hmin, ht, he]
    have e4 : ((iv l).take (i * 1)).length = i * 1 := by rw [List.length_take]; omega
    have hfirst : ((iv l).take (i * 1) ++ (iv l).drop ((i + 1) * 1)).length = (n - 1) * 1 := by rw [List.length_append, e4, hdl]; omega
    rw [List.take_append_of_le_length (by simp only [List.length_append, List.length_take, List.length_drop]; omega)]
    rw [List.take_append_of_le_length (by simp only [List.length_append, List.length_take, List.length_drop]; omega)]
    rw [List.take_take, show min ((n - 1) * 1) ((n - 1) * 1) = (n - 1) * 1 by omega]
    rw [List.take_append_of_le_length (by simp only [List.length_append, List.length_take, List.length_drop]; omega), ← hfirst, List.take_length]
set_option maxHeartbeats 4000000 in
set_option maxRecDepth 100000 in
theorem delete_any (base g n c i : Nat) (l : List Int) (w : World) (h : w.ownsRow base 3 1 (.slice (some ⟨g, 0, none⟩) n c) n (iv l)) (hl : l.length = n) (hi : i < n) (hsm : n ≤ 100000) :
    Calls Try.prog 60 #[.slice (some ⟨g, 0, none⟩) n c, .int .i64 i, .int .i64 ((i : Int) + 1)] w fun e w' => e = .returned (.slice (some ⟨g, 0, none⟩) (n - 1) c) ∧ w'.ownsRow base 3 1 (.slice (some ⟨g, 0, none⟩) (n - 1) c) (n - 1) (iv (l.eraseIdx i)) ∧ Keeps (· = g) w w' := by
  have hfin := own_del h hl hi
  simp only [Nat.mul_one] at hfin
  have hx : (iv l).length = n := by rw [iv_len, hl]
  have hdl : ((iv l).drop ((i + 1))).length = (n - (i + 1)) := by rw [List.length_drop, hx]
  obtain ⟨cur, hb, hcs, hnc, hmx, htk⟩ : ∃ cur, w.heap[g]? = some (.cells cur 3 (0, 0)) ∧ cur.size = c ∧ n ≤ c ∧ c ≤ maxLen ∧ List.take (n) cur.toList = iv l := by
    rcases h.2 with ⟨h0, _⟩ | ⟨g', cap', cur, e, hb, hg, hn, hm, hcs, ht⟩
    · cases h0
    · injection e with e1 e2 e3
      injection e1 with e1
      injection e1 with e1
      subst e1 e3
      exact ⟨cur, hg, by rw [hcs, Nat.mul_one], hn, hm, by rw [← ht, Nat.mul_one]⟩
  have hcell : ∀ j, j < c → (w.cell? ⟨g, j, none⟩).isSome = true := fun j hj => by rw [blk_cell hb]; simp [hcs]; omega
  have hval : ∀ j, j < n → w.cell? ⟨g, j, none⟩ = (iv l)[j]? := fun j hj => by
    rw [blk_cell hb, ← htk, List.getElem?_take, if_pos hj]
    simp
  have hfree : ∀ j, w.frozen? ⟨g, j, none⟩ = false := fun j => blk_free hb j
  generalize hnews : (iv l).drop ((i + 1)) = news at hfin hdl
  have hone : ∀ u ∈ news, u.oneCell' = true := by
    intro u hu
    rw [← hnews] at hu
    exact iv_one u (List.mem_of_mem_drop hu)
  obtain ⟨AD, hAD, hsrc⟩ : ∃ A : Addr, (if c = i + 1 then some (⟨g, 0, none⟩ : Addr) else some ⟨g, (i + 1), none⟩) = some A ∧ Hid (∀ t u, news[t]? = some u → w.drew.cell? (A.add t) = some u) := by
    by_cases hci : c = i + 1
    · refine ⟨⟨g, 0, none⟩, by simp [hci], fun t u hu => ?_⟩
      have h0 : news.length = 0 := by rw [hdl]; omega
      rw [List.length_eq_zero_iff.1 h0] at hu
      simp at hu
    · refine ⟨⟨g, (i + 1), none⟩, by simp [hci], fun t u hu => ?_⟩
      have ht : t < news.length := (List.getElem?_eq_some_iff.1 hu).1
      rw [hdl] at ht
      rw [addr_at]
      show w.cell? _ = _
      rw [hval _ (by omega), ← hu, ← hnews, List.getElem?_drop]
  obtain ⟨i0, hi0, hz1⟩ : ∃ i0, Try.prog.info? 3 = some i0 ∧ i0.size = 1 := by
    have := Try.infoAct
    cases h9 : Try.prog.info? 3 with
    | none => rw [h9] at this; cases this
    | some i0 => rw [h9] at this; exact ⟨i0, rfl, by simpa using this⟩
  have s3 : Hid (∀ t, t < news.length → (w.drew.cell? ⟨g, 0 + i * 1 + t, none⟩).isSome = true ∧ w.drew.frozen? ⟨g, 0 + i * 1 + t, none⟩ = false) := by
    intro t ht
    rw [hdl] at ht
    exact ⟨hcell _ (by omega), hfree _⟩
  obtain ⟨W1, hW1⟩ : ∃ W1, W1 = w.drew.setCells g (0 + i * 1) news := ⟨_, rfl⟩
  have hW1s : W1 = setsFrom w.drew g i news := by rw [hW1, setsFrom_eq, Nat.zero_add, Nat.mul_one]
  obtain ⟨cur2, hb2, hcs2⟩ : ∃ cur2, W1.heap[g]? = some (.cells cur2 3 (0, 0)) ∧ cur2.size = c := by
    have hbd : w.drew.heap[g]? = some (.cells cur 3 (0, 0)) := hb
    obtain ⟨c', h1, h2⟩ := setsFrom_block g 3 news i w.drew cur hbd (by rw [hdl, hcs]; omega)
    refine ⟨c', by rw [hW1s]; exact h1, ?_⟩
    have := congrArg List.length h2
    simp only [List.length_append, List.length_take, List.length_drop, Array.length_toList, hdl, hcs] at this
    omega
  have hcl : ∀ ty cc, (Builtin.clear_ #[24] ty #[.slice (some ⟨g, (n - 1), none⟩) 1 cc]).run Try.prog W1 = .ok (.tuple #[]) (W1.setCells g ((n - 1)) zeroAct) :=
    fun ty cc => clear_act W1 ty g _ cc (fun j hj => by rw [blk_cell hb2]; simp [hcs2]; omega) (fun j _ => blk_free hb2 _)
  have hE : Hid ((W1.setCells g ((n - 1)) zeroAct).ownsRow base 3 1 (.slice (some ⟨g, 0, none⟩) (n - 1) c) (n - 1) (iv (l.eraseIdx i)) ∧ Keeps (· = g) w (W1.setCells g ((n - 1)) zeroAct)) := by
    rw [setsFrom_eq, hW1s]
    exact ⟨hfin, ((Keeps.drew (· = g) w).trans (setsFrom_keeps g news i _) (fun _ f _ => f)).trans (setsFrom_keeps g zeroAct _ _) (fun _ f _ => f)⟩
  have hW : Hid (W1 = w.drew.setCells g (0 + i * 1) news) := hW1
  have hmix : Try.prog.follows Departure.mixedOrders = true := by kernel_rfl
  have q1 : (i : Int) < (n : Int) := by omega
  have q2 : (i : Int) + 1 ≤ (n : Int) := by omega
  have q3 : (n : Int) ≤ (c : Int) := by omega
  have q4 : i + 1 ≤ c := by omega
  have q0 : 0 ≤ (i : Int) + 1 := by omega
  have q7 : 0 ≤ (i : Int) := by omega
  have q5 : i ≤ c := by omega
  have q6 : i + 1 ≤ n := by omega
  have s1 : Hid (news.length = (n - (i + 1))) := hdl
  have HO : Hid _ := hone
  clear h hfin hx hdl hb hcs hmx htk hcell hval hfree hnews hone hW1 hW1s hb2 hcs2
  go_enter Try.func60, Try.ntmps60
  go_wp2_with fail
  go_region_law_o (refine step_append_room rfl (.tmp 22) (.tmp 25) 24 rfl 3 i0 1 Try.underlying24 hi0 hz1 g 0 i c (by simp [Act.eval, Act.put]) AD (n - (i + 1)) (c - (i + 1)) news (by simp [Act.eval, Act.put]) (by rw [Nat.mul_one]; exact s1.out) hsrc.out HO.out (by omega) s3.out ?_; rw [← hW.out])
  have E1 : i + (n - (i + 1)) = n - 1 := by omega
  rw [E1]
  have q8 : ¬ c = n - 1 := by omega
  have q9 : n - 1 ≤ n := by omega
  have qa : n - (n - 1) = 1 := by omega
  have qb : n ≤ c := by omega
  have qc : ((n - 1 : Nat) : Int) ≤ (n : Int) := by omega
  go_wp2_with fail
  go_ret
  exact ⟨rfl, hE.out.1, hE.out.2⟩
end Go.Proofs.Ytdiabpoafennlaa
