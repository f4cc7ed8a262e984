import Derived.Test.YtlligclkoecknaaFrPick
import Derived.Lib.SliceRun
import Derived.Deep.RegionLaw
import Derived.Shelf.RegionOpenPlain
/-! slices.Delete of one actor. -/
namespace Go.Proofs.Ytlligclkoecknaa
open Go.RowKit Go.HeapKit Go.IntWalk

theorem setsFrom_eq (g : Nat) : ∀ (vs : List Value) (i : Nat) (w : World), w.setCells g i vs = setsFrom w g i vs
  | [], _, _ => rfl
  | _ :: vs, i, _ => setsFrom_eq g vs (i + 1) _
theorem addAt (g o n : Nat) : (⟨g, o, none⟩ : Addr).add n = ⟨g, o + n, none⟩ := by unfold Addr.add; split <;> simp_all
def zeroAct : List Value := (⟨0, OpF.zero, OpF.zero⟩ : Actr).vals
theorem clear_act (W : World) (ty : TypeId) (g o c : Nat) (hc : ∀ j, j < 17 → (W.cell? ⟨g, o + j, none⟩).isSome = true) (hf : ∀ j, j < 17 → W.frozen? ⟨g, o + j, none⟩ = false) :
    (Builtin.clear_ #[84] ty #[.slice (some ⟨g, o, none⟩) 1 c]).run Try.prog W = .ok (.tuple #[]) (W.setCells g o zeroAct) := by
  have hzc : (Builtin.zeroCells (Value.agg #[.int .i64 0, .int .i64 0, .int .i64 0, .int .i64 0, .int .i64 0, .int .i64 0, .int .i64 0, .int .i64 0, .int .i64 0, .int .i64 0, .int .i64 0, .int .i64 0, .int .i64 0, .int .i64 0, .int .i64 0, .int .i64 0, .int .i64 0]).cells 1).toList = zeroAct := by kernel_rfl
  have hst := run_storeCells_cells (P := Try.prog) g o zeroAct 0 W (by intro j hj; exact hc j hj) (by intro j hj; exact hf j hj) (by intro v hv; simp [zeroAct, Actr.vals, OpF.vals, OpF.zero] at hv; subst hv; rfl)
  simp only [Nat.add_zero] at hst
  simp [Builtin.clear_, run_underlying Try.underlying84, hzc, hst]
theorem Try.infoAct : (Try.prog.info? 100).map (fun i => i.size) = some 17 := by kernel_rfl
theorem erase_vals (l : List Actr) (i : Nat) (hi : i < l.length) : actVals (l.eraseIdx i) = (actVals l).take (i * 17) ++ (actVals l).drop ((i + 1) * 17) := by
  have hs : l = l.take i ++ l.getD i default :: l.drop (i + 1) := by
    rw [List.getD_eq_getElem?_getD, List.getElem?_eq_getElem hi]
    simp
  have hl : (l.take i).length = i := by simp; omega
  generalize l.getD i default = a at hs
  generalize l.take i = l1 at hs hl
  generalize l.drop (i + 1) = l2 at hs
  subst hs
  subst hl
  rw [del_mid, actVals_app, actVals_app, actVals_cons]
  have e2 : (actVals l1).length = l1.length * 17 := actVals_length l1
  rw [← e2, List.take_left, show (l1.length + 1) * 17 = (actVals l1).length + 17 by omega, ← List.drop_drop, List.drop_left]
  have : (a.vals ++ actVals l2).drop 17 = actVals l2 := List.drop_left' (Actr.vals_length a)
  rw [this]
/-- The row behind the two writes of Delete. -/
theorem own_del {w : World} {g n c i : Nat} {l : List Actr} (h : w.ownsRow 0 100 17 (.slice (some ⟨g, 0, none⟩) n c) n (actVals l)) (hl : l.length = n) (hi : i < n) :
    (setsFrom (setsFrom w.drew g (i * 17) ((actVals l).drop ((i + 1) * 17))) g ((n - 1) * 17) zeroAct).ownsRow 0 100 17 (.slice (some ⟨g, 0, none⟩) (n - 1) c) (n - 1) (actVals (l.eraseIdx i)) := by
  have hx : (actVals l).length = n * 17 := by rw [actVals_length, hl]
  have hd : w.drew.ownsRow 0 100 17 (.slice (some ⟨g, 0, none⟩) n c) n (actVals l) := h
  have hdl : ((actVals l).drop ((i + 1) * 17)).length = n * 17 - (i + 1) * 17 := by rw [List.length_drop, hx]
  have h1 := own_sets hd (i * 17) ((actVals l).drop ((i + 1) * 17)) (by rw [hdl]; omega)
  have hz : zeroAct.length = 17 := rfl
  have h2 := own_sets h1 ((n - 1) * 17) zeroAct (by rw [hz]; omega)
  have he := erase_vals l i (by omega)
  have hel : (actVals (l.eraseIdx i)).length = (n - 1) * 17 := by rw [actVals_length, List.length_eraseIdx]; rw [if_pos (by omega), hl]
  generalize setsFrom (setsFrom w.drew g (i * 17) ((actVals l).drop ((i + 1) * 17))) g ((n - 1) * 17) zeroAct = W at h2
  rcases h2.2 with ⟨h0, _⟩ | ⟨g', cap', cur, e, hb, hg, hn, hm, hcs, ht⟩
  · cases h0
  · injection e with e1 e2 e3
    injection e1 with e1
    injection e1 with e1
    subst e1 e3
    refine ⟨hel, .inr ⟨g, c, cur, rfl, hb, hg, by omega, hm, hcs, ?_⟩⟩
    have hmin : List.take ((n - 1) * 17) cur.toList = List.take ((n - 1) * 17) (List.take (n * 17) cur.toList) := by rw [List.take_take]; congr 1; omega
    rw [hmin, ht, he]
    have e4 : ((actVals l).take (i * 17)).length = i * 17 := by rw [List.length_take]; omega
    have hfirst : ((actVals l).take (i * 17) ++ (actVals l).drop ((i + 1) * 17)).length = (n - 1) * 17 := by rw [List.length_append, e4, hdl]; omega
    rw [List.take_append_of_le_length (by simp only [List.length_append, List.length_take, List.length_drop]; omega)]
    rw [List.take_append_of_le_length (by simp only [List.length_append, List.length_take, List.length_drop]; omega)]
    rw [List.take_take, show min ((n - 1) * 17) ((n - 1) * 17) = (n - 1) * 17 by omega]
    rw [List.take_append_of_le_length (by simp only [List.length_append, List.length_take, List.length_drop]; omega), ← hfirst, List.take_length]
set_option maxHeartbeats 4000000 in
set_option maxRecDepth 100000 in
theorem delete_any (g n c i : Nat) (l : List Actr) (w : World) (h : w.ownsRow 0 100 17 (.slice (some ⟨g, 0, none⟩) n c) n (actVals l)) (hl : l.length = n) (hi : i < n) (hsm : n ≤ 1000) :
    Calls Try.prog 54 #[.slice (some ⟨g, 0, none⟩) n c, .int .i64 i, .int .i64 ((i : Int) + 1)] w fun e w' => e = .returned (.slice (some ⟨g, 0, none⟩) (n - 1) c) ∧ w'.ownsRow 0 100 17 (.slice (some ⟨g, 0, none⟩) (n - 1) c) (n - 1) (actVals (l.eraseIdx i)) ∧ Keeps (· = g) w w' := by
  have hfin := own_del h hl hi
  have hx : (actVals l).length = n * 17 := by rw [actVals_length, hl]
  have hdl : ((actVals l).drop ((i + 1) * 17)).length = (n - (i + 1)) * 17 := by rw [List.length_drop, hx]; omega
  obtain ⟨cur, hb, hcs, hnc, hmx, htk⟩ : ∃ cur, w.heap[g]? = some (.cells cur 100 (0, 0)) ∧ cur.size = c * 17 ∧ n ≤ c ∧ c ≤ maxLen ∧ List.take (n * 17) cur.toList = actVals l := by
    rcases h.2 with ⟨h0, _⟩ | ⟨g', cap', cur, e, hb, hg, hn, hm, hcs, ht⟩
    · cases h0
    · injection e with e1 e2 e3
      injection e1 with e1
      injection e1 with e1
      subst e1 e3
      exact ⟨cur, hg, hcs, hn, hm, ht⟩
  have hcell : ∀ j, j < c * 17 → (w.cell? ⟨g, j, none⟩).isSome = true := fun j hj => by rw [cell_of_block hb]; simp [hcs, hj]
  have hval : ∀ j, j < n * 17 → w.cell? ⟨g, j, none⟩ = (actVals l)[j]? := fun j hj => by
    rw [cell_of_block hb, ← htk, List.getElem?_take, if_pos hj]
    simp
  have hfree : ∀ j, w.frozen? ⟨g, j, none⟩ = false := fun j => free_of_block hb j
  generalize hnews : (actVals l).drop ((i + 1) * 17) = news at hfin hdl
  have hone : ∀ u ∈ news, u.oneCell' = true := by
    intro u hu
    rw [← hnews] at hu
    have hu2 := List.mem_of_mem_drop hu
    simp only [actVals, List.mem_flatMap] at hu2
    obtain ⟨a, -, ha⟩ := hu2
    simp [Actr.vals, OpF.vals] at ha
    rcases ha with rfl | rfl | rfl | rfl | rfl | rfl | rfl | rfl | rfl | rfl | rfl | rfl | rfl | rfl | rfl | rfl | rfl <;> rfl
  obtain ⟨AD, hAD, hsrc⟩ : ∃ A : Addr, (if c = i + 1 then some (⟨g, 0, none⟩ : Addr) else some ⟨g, (i + 1) * 17, none⟩) = some A ∧ Hid (∀ t u, news[t]? = some u → w.drew.cell? (A.add t) = some u) := by
    by_cases hci : c = i + 1
    · refine ⟨⟨g, 0, none⟩, by simp [hci], fun t u hu => ?_⟩
      have h0 : news.length = 0 := by rw [hdl]; omega
      rw [List.length_eq_zero_iff.1 h0] at hu
      simp at hu
    · refine ⟨⟨g, (i + 1) * 17, none⟩, by simp [hci], fun t u hu => ?_⟩
      have ht : t < news.length := (List.getElem?_eq_some_iff.1 hu).1
      rw [hdl] at ht
      rw [addAt]
      show w.cell? _ = _
      rw [hval _ (by omega), ← hu, ← hnews, List.getElem?_drop]
  obtain ⟨i0, hi0, hz1⟩ : ∃ i0, Try.prog.info? 100 = some i0 ∧ i0.size = 17 := by
    have := Try.infoAct
    cases h9 : Try.prog.info? 100 with
    | none => rw [h9] at this; cases this
    | some i0 => rw [h9] at this; exact ⟨i0, rfl, by simpa using this⟩
  have s3 : Hid (∀ t, t < news.length → (w.drew.cell? ⟨g, 0 + i * 17 + t, none⟩).isSome = true ∧ w.drew.frozen? ⟨g, 0 + i * 17 + t, none⟩ = false) := by
    intro t ht
    rw [hdl] at ht
    exact ⟨hcell _ (by omega), hfree _⟩
  obtain ⟨W1, hW1⟩ : ∃ W1, W1 = w.drew.setCells g (0 + i * 17) news := ⟨_, rfl⟩
  have hW1s : W1 = setsFrom w.drew g (i * 17) news := by rw [hW1, setsFrom_eq, Nat.zero_add]
  obtain ⟨cur2, hb2, hcs2⟩ : ∃ cur2, W1.heap[g]? = some (.cells cur2 100 (0, 0)) ∧ cur2.size = c * 17 := by
    have hbd : w.drew.heap[g]? = some (.cells cur 100 (0, 0)) := hb
    obtain ⟨c', h1, h2⟩ := setsFrom_block g 100 news (i * 17) w.drew cur hbd (by rw [hdl, hcs]; omega)
    refine ⟨c', by rw [hW1s]; exact h1, ?_⟩
    have := congrArg List.length h2
    simp only [List.length_append, List.length_take, List.length_drop, Array.length_toList, hdl, hcs] at this
    omega
  have hcl : ∀ ty cc, (Builtin.clear_ #[84] ty #[.slice (some ⟨g, (n - 1) * 17, none⟩) 1 cc]).run Try.prog W1 = .ok (.tuple #[]) (W1.setCells g ((n - 1) * 17) zeroAct) :=
    fun ty cc => clear_act W1 ty g _ cc (fun j hj => by rw [cell_of_block hb2]; simp [hcs2]; omega) (fun j _ => free_of_block hb2 _)
  have hE : Hid ((W1.setCells g ((n - 1) * 17) zeroAct).ownsRow 0 100 17 (.slice (some ⟨g, 0, none⟩) (n - 1) c) (n - 1) (actVals (l.eraseIdx i)) ∧ Keeps (· = g) w (W1.setCells g ((n - 1) * 17) zeroAct)) := by
    rw [setsFrom_eq, hW1s]
    exact ⟨hfin, ((Keeps.drew (· = g) w).trans (setsFrom_keeps g news (i * 17) _) (fun _ f _ => f)).trans (setsFrom_keeps g zeroAct _ _) (fun _ f _ => f)⟩
  have hW : Hid (W1 = w.drew.setCells g (0 + i * 17) news) := hW1
  have hmix : Try.prog.follows Departure.mixedOrders = true := by kernel_rfl
  have q1 : (i : Int) < (n : Int) := by omega
  have q2 : (i : Int) + 1 ≤ (n : Int) := by omega
  have q3 : (n : Int) ≤ (c : Int) := by omega
  have q4 : i + 1 ≤ c := by omega
  have q0 : 0 ≤ (i : Int) + 1 := by omega
  have q7 : 0 ≤ (i : Int) := by omega
  have q5 : i ≤ c := by omega
  have q6 : i + 1 ≤ n := by omega
  have s1 : Hid (news.length = (n - (i + 1)) * 17) := hdl
  have HO : Hid _ := hone
  clear h hfin hx hdl hb hcs hmx htk hcell hval hfree hnews hone hW1 hW1s hb2 hcs2
  go_enter Try.func54, Try.ntmps54
  go_wp2_with fail
  go_region_law_o (refine step_append_room rfl (.tmp 22) (.tmp 25) 84 rfl 100 i0 17 Try.underlying84 hi0 hz1 g 0 i c (by simp [Act.eval, Act.put]) AD (n - (i + 1)) (c - (i + 1)) news (by simp [Act.eval, Act.put]) s1.out hsrc.out HO.out (by omega) s3.out ?_; rw [← hW.out])
  have E1 : i + (n - (i + 1)) = n - 1 := by omega
  rw [E1]
  have q8 : ¬ c = n - 1 := by omega
  have q9 : n - 1 ≤ n := by omega
  have qa : n - (n - 1) = 1 := by omega
  have qb : n ≤ c := by omega
  have qc : ((n - 1 : Nat) : Int) ≤ (n : Int) := by omega
  go_wp2_with fail
  go_ret
  exact ⟨rfl, hE.out.1, hE.out.2⟩
end Go.Proofs.Ytlligclkoecknaa
