import Derived.Test.YtncbejpefokhhaaBookWalks
/-! The book's other kind of list. -/
namespace Go.Proofs.Ytncbejpefokhhaa
open Go.RowKit Go.HeapKit

def entVals (m : Int) : List Value := [.int .i64 (-3), .int .i64 9, .int .i64 (-4), .int .i64 m, .int .i64 (wrap64 (-m)), .bool true]
theorem results_row2 {P : Program} {fn : Func} {q : Tmp} {ty : TypeId} (h : fn.results = #[.cell q ty]) {tmps : Array Value} {w : World} {g : Nat} (ha : tmps.getD q undef = .pointer (some ⟨g, 0, none⟩)) {v : Value}
    (hl : (loadVar ty ⟨g, 0, none⟩).run P w = .ok v w) : (results fn tmps).run P w = .ok v w := by
  have ha' : tmps[q]?.getD undef = .pointer (some ⟨g, 0, none⟩) := by simpa using ha
  simp [results, h, ha', asAddr, hl]
theorem entry_any (m : Int) (w : World) : Calls Try.prog 27 #[.int .i64 m] w fun e w' => e = .returned (.agg #[.int .i64 (-3), .int .i64 9, .int .i64 (-4), .int .i64 m, .int .i64 (wrap64 (-m)), .bool true]) ∧ w' = w.alloc (.cells #[.int .i64 (-3), .int .i64 9, .int .i64 (-4), .int .i64 m, .int .i64 (wrap64 (-m)), .bool true] 65) := by
  go_enter Try.func27, Try.ntmps27
  go_wp2
  refine bodyPost_ret (results_row2 (q := 2) (ty := 65) rfl rfl (run_loadVar_row _ w.heap.size 65 65 _ _ _ (new_at _ _ _ rfl) Try.underlying65 rfl (by kernel_rfl))) rfl ?_
  exact ⟨rfl, rfl⟩

theorem own_setS {w : World} {e : TypeId} {size g n cap : Nat} {xs : List Value} (h : w.ownsRow 0 e size (.slice (some ⟨g, 0, none⟩) n cap) n xs) (k : Nat) (v : Value) :
    (w.setCell ⟨g, k, none⟩ v).ownsRow 0 e size (.slice (some ⟨g, 0, none⟩) n cap) n (xs.set k v) := by
  rcases h.2 with ⟨h0, _⟩ | ⟨g', cap', cur, he, hb, hg, hn, hm, hcs, ht⟩
  · cases h0
  · injection he with e1 e2 e3
    injection e1 with e1
    injection e1 with e1
    subst e1 e3
    refine ⟨by simpa using h.1, .inr ⟨g, cap, cur.setIfInBounds k v, rfl, hb, setCell_block hg v, hn, hm, by simpa using hcs, ?_⟩⟩
    rw [Array.toList_setIfInBounds, List.take_set, ht]

/-- 'append' of entries to a full row of accesses. -/
theorem accs_full (ao : Option Addr) (n : Nat) (zs : List Value) (w : World) (hown : w.ownsRow 0 65 6 (.slice ao n n) n zs) (cs : Array Value) (m : Nat) (hpos : 0 < m) (hcs : cs.size = m * 6) (h1 : ∀ u ∈ cs.toList, u.oneCell' = true) (hs : n + m ≤ 4000000) :
    ∃ cap w', (Builtin.append_ #[25, 25] 25 #[.slice ao n n, .slice (some ⟨w.heap.size, 0, none⟩) m m]).run Try.prog (w.alloc (.cells cs 65)) = .ok (.slice (some ⟨w.heap.size + 1, 0, none⟩) (n + m) cap) w' ∧
      w'.ownsRow 0 65 6 (.slice (some ⟨w.heap.size + 1, 0, none⟩) (n + m) cap) (n + m) (zs ++ cs.toList) ∧ Keeps None w w' := by
  obtain ⟨i0, hi, hz0, hz1, hz2⟩ := info_parts Try.infoAcc
  obtain ⟨cap, w', hr, ho, hk⟩ := append_full (P := Try.prog) (w.alloc (.cells cs 65)) 25 25 65 i0 _ 6 48 Try.underlying25 hi hz0 hz1 hz2 rfl (by decide) ao n zs (hown.alloc _)
    w.heap.size m m cs.toList hpos (by simpa using hcs) (fun j u hu => by rw [cell_of_block (new_at w _ _ rfl)]; simpa using hu) h1 (by unfold maxLen; omega) (by omega)
  simp only [World.size_alloc] at hr ho
  exact ⟨cap, w', hr, ho, (Keeps.alloc None w _).trans hk (fun _ f _ => f)⟩
theorem accs_more (v : Value) (n : Nat) (fs : List Value) (w : World) (hown : w.ownsRow 0 65 6 v n fs) (cs : Array Value) (hcs : cs.size = 6) (h1 : ∀ u ∈ cs.toList, u.oneCell' = true) (hs : n ≤ 4000000) :
    ∃ g cap w', (Builtin.append_ #[25, 25] 25 #[v, .slice (some ⟨w.heap.size, 0, none⟩) 1 1]).run Try.prog (w.alloc (.cells cs 65)) = .ok (.slice (some ⟨g, 0, none⟩) (n + 1) cap) w' ∧
      w'.ownsRow 0 65 6 (.slice (some ⟨g, 0, none⟩) (n + 1) cap) (n + 1) (fs ++ cs.toList) ∧ Keeps (fun k => v.ownBlock = some k) w w' ∧ (v.ownBlock = some g ∨ w.heap.size ≤ g) := by
  obtain ⟨i0, hi, hz0, hz1, hz2⟩ := info_parts Try.infoAcc
  obtain ⟨v', w1, hr, ho, hgr, hm, -⟩ := run_append_moved (P := Try.prog) (w.alloc (.cells cs 65)) 0 25 25 65 i0 _ 6 48 Try.underlying25 hi hz0 hz1 hz2 rfl (by decide) v n _ (hown.alloc _)
    ⟨w.heap.size, 0, none⟩ 1 1 cs.toList (by simpa using hcs) (by
      intro j u hu
      rw [show (⟨w.heap.size, 0, none⟩ : Addr).add j = ⟨w.heap.size, j, none⟩ by unfold Addr.add; split <;> simp_all, cell_of_block (new_at w _ _ rfl)]
      simpa using hu) h1 (by unfold maxLen; omega) (by omega) (Nat.zero_le _)
  obtain ⟨g, cap, rfl⟩ : ∃ g cap, v' = .slice (some ⟨g, 0, none⟩) (n + 1) cap := by
    rcases ho.2 with ⟨_, h0⟩ | ⟨b, cap, cur, rfl, _⟩
    · omega
    · exact ⟨b, cap, rfl⟩
  refine ⟨g, cap, w1, hr, ho, ((Keeps.refl _ w).andAlloc _).andGrown hgr (fun k e => .inl e), ?_⟩
  rcases hm with hm | ⟨g', e, hg⟩
  · exact .inl (hm.symm.trans rfl)
  · simp [Value.ownBlock] at e; simp at hg; exact .inr (by omega)
def entArr (m : Int) : Array Value := #[.int .i64 (-3), .int .i64 9, .int .i64 (-4), .int .i64 m, .int .i64 (wrap64 (-m)), .bool true]
theorem ent_one (m : Int) : ∀ u ∈ (#[.int .i64 (-3), .int .i64 9, .int .i64 (-4), .int .i64 m, .int .i64 (wrap64 (-m)), .bool true] : Array Value).toList, u.oneCell' = true := by
  intro u hu
  simp at hu
  rcases hu with rfl | rfl | rfl | rfl | rfl | rfl <;> rfl
theorem ent_two (m k : Int) : ∀ u ∈ (#[.int .i64 (-3), .int .i64 9, .int .i64 (-4), .int .i64 m, .int .i64 (wrap64 (-m)), .bool true, .int .i64 (-3), .int .i64 9, .int .i64 (-4), .int .i64 k, .int .i64 (wrap64 (-k)), .bool true] : Array Value).toList, u.oneCell' = true := by
  intro u hu
  simp at hu
  rcases hu with rfl | rfl | rfl | rfl | rfl | rfl | rfl | rfl | rfl | rfl | rfl | rfl <;> rfl
theorem ent_three (m k l : Int) : ∀ u ∈ (#[.int .i64 (-3), .int .i64 9, .int .i64 (-4), .int .i64 m, .int .i64 (wrap64 (-m)), .bool true, .int .i64 (-3), .int .i64 9, .int .i64 (-4), .int .i64 k, .int .i64 (wrap64 (-k)), .bool true, .int .i64 (-3), .int .i64 9, .int .i64 (-4), .int .i64 l, .int .i64 (wrap64 (-l)), .bool true] : Array Value).toList, u.oneCell' = true := by
  intro u hu
  simp at hu
  rcases hu with rfl | rfl | rfl | rfl | rfl | rfl | rfl | rfl | rfl | rfl | rfl | rfl | rfl | rfl | rfl | rfl | rfl | rfl <;> rfl

theorem Try.infoNoted : (Try.prog.info? 71).map (fun i => (i.zero, i.size, i.bytes)) = some (some (.agg #[.int .i64 0, .slice none 0 0, .slice none 0 0, .slice none 0 0, .slice none 0 0]), 5, 104) := by kernel_rfl
theorem noted_append (pb : Nat) (vn va : Value) (nx : Int) (nN nA : Nat) (xs ys : List Value) (m : Int) (a1 a2 a3 a4 : Option Addr) (n1 n2 n3 n4 c1 c2 c3 c4 : Nat) (w : World) (h : IsBook w pb vn va nx nN nA xs ys) (hN : nA ≤ 2097152) :
    ∃ g cap w', (Builtin.append_ #[34, 34] 34 #[va, .slice (some ⟨w.heap.size, 0, none⟩) 1 1]).run Try.prog (w.alloc (.cells #[.int .i64 m, .slice a1 n1 c1, .slice a2 n2 c2, .slice a3 n3 c3, .slice a4 n4 c4] 71)) = .ok (.slice (some ⟨g, 0, none⟩) (nA + 1) cap) w' ∧
      w'.cell? ⟨pb, 1, none⟩ = some va ∧ w'.frozen? ⟨pb, 1, none⟩ = false ∧
      IsBook (w'.setCell ⟨pb, 1, none⟩ (.slice (some ⟨g, 0, none⟩) (nA + 1) cap)) pb vn (.slice (some ⟨g, 0, none⟩) (nA + 1) cap) nx nN (nA + 1) xs (ys ++ [.int .i64 m, .slice a1 n1 c1, .slice a2 n2 c2, .slice a3 n3 c3, .slice a4 n4 c4]) ∧
      Keeps (fun k => k = pb ∨ va.ownBlock = some k) w (w'.setCell ⟨pb, 1, none⟩ (.slice (some ⟨g, 0, none⟩) (nA + 1) cap)) ∧ Moved w va (.slice (some ⟨g, 0, none⟩) (nA + 1) cap) := by
  obtain ⟨i0, hi, hz0, hz1, hz2⟩ := info_parts Try.infoNoted
  obtain ⟨v', w1, hr, ho, hgr, hm, -⟩ := run_append_moved (P := Try.prog) (w.alloc (.cells #[.int .i64 m, .slice a1 n1 c1, .slice a2 n2 c2, .slice a3 n3 c3, .slice a4 n4 c4] 71)) 0 34 34 71 i0 _ 5 104 Try.underlying34 hi hz0 hz1 hz2 rfl (by decide) va nA ys (h.acc.alloc _)
    ⟨w.heap.size, 0, none⟩ 1 1 [.int .i64 m, .slice a1 n1 c1, .slice a2 n2 c2, .slice a3 n3 c3, .slice a4 n4 c4] rfl (by
      intro j u hu
      rw [show (⟨w.heap.size, 0, none⟩ : Addr).add j = ⟨w.heap.size, j, none⟩ by unfold Addr.add; split <;> simp_all, cell_of_block (new_at w _ _ rfl)]
      simpa using hu) (by intro u hu; simp at hu; rcases hu with rfl | rfl | rfl | rfl | rfl <;> rfl) (by unfold maxLen; omega) (by omega) (Nat.zero_le _)
  obtain ⟨g, cap, rfl⟩ : ∃ g cap, v' = .slice (some ⟨g, 0, none⟩) (nA + 1) cap := by
    rcases ho.2 with ⟨_, h0⟩ | ⟨b, cap, cur, rfl, _⟩
    · omega
    · exact ⟨b, cap, rfl⟩
  have hk : Keeps (fun k => va.ownBlock = some k) w w1 := ((Keeps.refl _ w).andAlloc _).andGrown hgr (fun k e => .inl e)
  have hb1 := (hk.block pb h.lt h.nap).trans h.blk
  have hks : Keeps (· = pb) w1 (w1.setCell ⟨pb, 1, none⟩ (.slice (some ⟨g, 0, none⟩) (nA + 1) cap)) := Keeps.setCell (S := (· = pb)) w1 (a := ⟨pb, 1, none⟩) rfl _
  refine ⟨g, cap, w1, hr, (cell_of_block hb1 1).trans rfl, free_of_block hb1 1, ⟨(setCell_block hb1 _).trans rfl, hks.own (hk.own h.num (fun k e e2 => own_apart h.num h.acc (by decide) e e2)) (fun k e e2 => h.nnp (e2 ▸ e)), hks.own ho (fun k e e2 => ?_)⟩, (hk.mono (fun _ e _ => .inr e)).andSet (x := ⟨pb, 1, none⟩) (.inl (.inl rfl)) _, ?_⟩
  · subst e2
    exact absurd (own_type ho e hb1) (by decide)
  · rcases hm with hm | ⟨g', e, hg⟩
    · exact .inl hm
    · exact .inr ⟨g', e, by simp at hg; omega⟩

end Go.Proofs.Ytncbejpefokhhaa
