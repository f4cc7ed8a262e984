import Derived.Test.YtncbejpefokhhaaEntryWalks
/-! The book's accesses. -/
namespace Go.Proofs.Ytncbejpefokhhaa
open Go.RowKit Go.HeapKit

theorem entry_ex (m : Int) (w : World) : ∃ we, Calls Try.prog 27 #[.int .i64 m] w (fun e w' => e = .returned (.agg #[.int .i64 (-3), .int .i64 9, .int .i64 (-4), .int .i64 m, .int .i64 (wrap64 (-m)), .bool true]) ∧ w' = we) ∧ Keeps None w we :=
  ⟨_, entry_any m w, Keeps.alloc None w _⟩

set_option maxHeartbeats 4000000 in
set_option maxRecDepth 100000 in
theorem accesses_any (pb : Nat) (vn va : Value) (nx : Int) (nN nA : Nat) (xs ys : List Value) (ao : Option Addr) (n : Nat) (zs : List Value) (w : World) (h : IsBook w pb vn va nx nN nA xs ys) (ho : w.ownsRow 0 65 6 (.slice ao n n) n zs) (hn : n ≤ 2097152) (hN : nA ≤ 2097152) :
    Calls Try.prog 11 #[.pointer (some ⟨pb, 0, none⟩), .slice ao n n] w fun e w' => e = .returned (.tuple #[]) ∧ ∃ va' ys', IsBook w' pb vn va' (wrap64 (nx + 16)) nN (nA + 1) xs ys' ∧
      Keeps (fun k => k = pb ∨ va.ownBlock = some k ∨ (Value.slice ao n n).ownBlock = some k) w w' ∧ Moved w va va' := by
  have HH : Hid (IsBook w pb vn va nx nN nA xs ys ∧ w.ownsRow 0 65 6 (.slice ao n n) n zs) := ⟨h, ho⟩
  have hmk := mark_book pb vn va nx nN nA xs ys w h
  clear h ho
  generalize hmm : markOf nx = m at hmk
  clear hmm
  go_enter Try.func11, Try.ntmps11
  go_wp2_with fail
  refine hmk.mono ?_
  rintro e w1 ⟨rfl, hB1, hk1⟩
  have ho1 := hk1.own HH.out.2 (fun k e e2 => HH.out.1.apart HH.out.2 (by decide) (by decide) (by decide) (.inl e2) e)
  have H1 : Hid (IsBook w1 pb vn va (wrap64 (nx + 16)) nN nA xs ys ∧ w1.ownsRow 0 65 6 (.slice ao n n) n zs ∧ Keeps (fun k => k = pb ∨ va.ownBlock = some k ∨ (Value.slice ao n n).ownBlock = some k) w w1) := ⟨hB1, ho1, hk1.mono (fun _ e _ => .inl e)⟩
  clear hmk hB1 hk1 ho1
  go_wp2_with fail
  go_loopw [5] (fun i wr => ∃ k : Nat, k ≤ n ∧ i = .int .i64 k ∧ IsBook wr pb vn va (wrap64 (nx + 16)) nN nA xs ys ∧ (∃ zs : List Value, wr.ownsRow 0 65 6 (.slice ao n n) n zs) ∧ Keeps (fun k => k = pb ∨ va.ownBlock = some k ∨ (Value.slice ao n n).ownBlock = some k) w wr) (fun i _ => n - (intOf i).toNat)
  case atStart => exact ⟨0, Nat.zero_le _, rfl, H1.out.1, ⟨zs, H1.out.2.1⟩, H1.out.2.2⟩
  case round =>
    clear H1
    obtain ⟨k, hk, rfl, hB, ⟨qs, hq⟩, hK⟩ := hrel
    by_cases hkn : k < n
    · have hq2 := hq.alloc (.cells #[.int .i64 (-3), .int .i64 9, .int .i64 (-4), .int .i64 m, .int .i64 (wrap64 (-m)), .bool true] 65)
      have hB2 := hB.kept (Keeps.alloc None wr (.cells #[.int .i64 (-3), .int .i64 9, .int .i64 (-4), .int .i64 m, .int .i64 (wrap64 (-m)), .bool true] 65)) (fun _ _ f => f)
      have hK2 := hK.andAlloc (.cells #[.int .i64 (-3), .int .i64 9, .int .i64 (-4), .int .i64 m, .int .i64 (wrap64 (-m)), .bool true] 65)
      obtain ⟨wq, hwq⟩ : ∃ wq, wq = wr.alloc (.cells #[.int .i64 (-3), .int .i64 9, .int .i64 (-4), .int .i64 m, .int .i64 (wrap64 (-m)), .bool true] 65) := ⟨_, rfl⟩
      have hen := entry_any m wr
      rw [← hwq] at hq2 hB2 hK2 hen
      clear hwq
      obtain ⟨g, rfl, cur, hg, hcs⟩ : ∃ g, ao = some ⟨g, 0, none⟩ ∧ ∃ cur : Array Value, wq.heap[g]? = some (.cells cur 65 (0, 0)) ∧ cur.size = n * 6 := by
        rcases hq2.2 with ⟨_, h0⟩ | ⟨g, cap', cur, he, _, hg, _, _, hcs, ht⟩
        · omega
        · injection he with e1 e2 e3
          subst e1 e3
          exact ⟨g, rfl, cur, hg, hcs⟩
      have y0 := (cell_of_block hg (k * 6)).trans (Array.getElem?_eq_getElem (by omega))
      have y1 := (cell_of_block hg (k * 6 + 1)).trans (Array.getElem?_eq_getElem (by omega))
      have y2 := (cell_of_block hg (k * 6 + 2)).trans (Array.getElem?_eq_getElem (by omega))
      have y3 := (cell_of_block hg (k * 6 + 3)).trans (Array.getElem?_eq_getElem (by omega))
      have y4 := (cell_of_block hg (k * 6 + 4)).trans (Array.getElem?_eq_getElem (by omega))
      have y5 := (cell_of_block hg (k * 6 + 5)).trans (Array.getElem?_eq_getElem (by omega))
      have f0 := free_of_block hg (k * 6)
      have f1 := free_of_block hg (k * 6 + 1)
      have f2 := free_of_block hg (k * 6 + 2)
      have f3 := free_of_block hg (k * 6 + 3)
      have f4 := free_of_block hg (k * 6 + 4)
      have f5 := free_of_block hg (k * 6 + 5)
      have hKq : Keeps (· = g) wq wq := Keeps.refl _ _
      have hks : Keeps (· = g) wq ((((((wq.setCell ⟨g, k * 6, none⟩ (.int .i64 (-3))).setCell ⟨g, k * 6 + 1, none⟩ (.int .i64 9)).setCell ⟨g, k * 6 + 2, none⟩ (.int .i64 (-4))).setCell ⟨g, k * 6 + 3, none⟩ (.int .i64 m)).setCell ⟨g, k * 6 + 4, none⟩ (.int .i64 (wrap64 (-m)))).setCell ⟨g, k * 6 + 5, none⟩ (.bool true)) := ((((((hKq.andSet (x := ⟨g, k * 6, none⟩) (.inl rfl) (.int .i64 (-3))).andSet (x := ⟨g, k * 6 + 1, none⟩) (.inl rfl) (.int .i64 9)).andSet (x := ⟨g, k * 6 + 2, none⟩) (.inl rfl) (.int .i64 (-4))).andSet (x := ⟨g, k * 6 + 3, none⟩) (.inl rfl) (.int .i64 m)).andSet (x := ⟨g, k * 6 + 4, none⟩) (.inl rfl) (.int .i64 (wrap64 (-m)))).andSet (x := ⟨g, k * 6 + 5, none⟩) (.inl rfl) (.bool true))
      have HN : Hid (IsBook ((((((wq.setCell ⟨g, k * 6, none⟩ (.int .i64 (-3))).setCell ⟨g, k * 6 + 1, none⟩ (.int .i64 9)).setCell ⟨g, k * 6 + 2, none⟩ (.int .i64 (-4))).setCell ⟨g, k * 6 + 3, none⟩ (.int .i64 m)).setCell ⟨g, k * 6 + 4, none⟩ (.int .i64 (wrap64 (-m)))).setCell ⟨g, k * 6 + 5, none⟩ (.bool true)) pb vn va (wrap64 (nx + 16)) nN nA xs ys ∧ (∃ zs : List Value, ((((((wq.setCell ⟨g, k * 6, none⟩ (.int .i64 (-3))).setCell ⟨g, k * 6 + 1, none⟩ (.int .i64 9)).setCell ⟨g, k * 6 + 2, none⟩ (.int .i64 (-4))).setCell ⟨g, k * 6 + 3, none⟩ (.int .i64 m)).setCell ⟨g, k * 6 + 4, none⟩ (.int .i64 (wrap64 (-m)))).setCell ⟨g, k * 6 + 5, none⟩ (.bool true)).ownsRow 0 65 6 (.slice (some ⟨g, 0, none⟩) n n) n zs) ∧ Keeps (fun k => k = pb ∨ va.ownBlock = some k ∨ (Value.slice (some ⟨g, 0, none⟩) n n).ownBlock = some k) w ((((((wq.setCell ⟨g, k * 6, none⟩ (.int .i64 (-3))).setCell ⟨g, k * 6 + 1, none⟩ (.int .i64 9)).setCell ⟨g, k * 6 + 2, none⟩ (.int .i64 (-4))).setCell ⟨g, k * 6 + 3, none⟩ (.int .i64 m)).setCell ⟨g, k * 6 + 4, none⟩ (.int .i64 (wrap64 (-m)))).setCell ⟨g, k * 6 + 5, none⟩ (.bool true))) :=
        ⟨hB2.kept hks (fun i hi e => hB2.apart hq2 (by decide) (by decide) (by decide) hi (by rw [e]; rfl)), ⟨_, (own_setS (own_setS (own_setS (own_setS (own_setS (own_setS hq2 (k * 6) (.int .i64 (-3))) (k * 6 + 1) (.int .i64 9)) (k * 6 + 2) (.int .i64 (-4))) (k * 6 + 3) (.int .i64 m)) (k * 6 + 4) (.int .i64 (wrap64 (-m)))) (k * 6 + 5) (.bool true))⟩, hK2.trans hks (fun i e _ => .inr (.inr (by rw [e]; rfl)))⟩
      have i1 : (k : Int) < (n : Int) := by omega
      clear hks hKq hB hq hK hB2 hq2 hK2 HH hg
      go_wp2_with fail
      refine hen.mono ?_
      rintro e w' ⟨rfl, hw⟩
      have hw2 := hw.symm
      subst hw2
      clear hw hen
      go_wp2
      go_roundw
      case rel => exact ⟨k + 1, by omega, by go_num, HN.out⟩
      case measure => simp [intOf]; omega
    · have H2 : Hid (IsBook wr pb vn va (wrap64 (nx + 16)) nN nA xs ys ∧ wr.ownsRow 0 65 6 (.slice ao n n) n qs ∧ Keeps (fun k => k = pb ∨ va.ownBlock = some k ∨ (Value.slice ao n n).ownBlock = some k) w wr) := ⟨hB, hq, hK⟩
      clear hB hq hK
      obtain ⟨w3, hw3⟩ : ∃ w3, w3 = wr := ⟨_, rfl⟩
      subst hw3
      clear HH zs
      go_wp2_with fail
      go_loopw [6, 7] (fun l i wr => ∃ k : Nat, k ≤ 64 ∧ i = .int .i64 k ∧ Keeps None w3 wr ∧ ((k = 0 ∧ l = .slice ao n n) ∨ ∃ g c fs, l = .slice (some ⟨g, 0, none⟩) (n + k) c ∧ w3.heap.size ≤ g ∧ wr.ownsRow 0 65 6 (.slice (some ⟨g, 0, none⟩) (n + k) c) (n + k) fs)) (fun _ i _ => 64 - (intOf i).toNat)
      case atStart => exact ⟨0, Nat.zero_le _, rfl, Keeps.refl _ _, .inl ⟨rfl, rfl⟩⟩
      case round =>
        obtain ⟨q, hq, rfl, hKq, hfar⟩ := hrel
        by_cases hq64 : q < 64
        · obtain ⟨we, hen, hke⟩ := entry_ex (wrap64 (m + 7)) wr
          have hKe := hKq.trans hke (fun _ f _ => f)
          rcases hfar with ⟨rfl, rfl⟩ | ⟨g, c, fs, rfl, hg, hof⟩
          · obtain ⟨cp, w4, hr, ho4, hk4⟩ := accs_full ao n _ we (hKe.own H2.out.2.1 (fun _ _ f => f)) #[.int .i64 (-3), .int .i64 9, .int .i64 (-4), .int .i64 (wrap64 (m + 7)), .int .i64 (wrap64 (-wrap64 (m + 7))), .bool true] 1 (by decide) rfl (ent_one _) (by omega)
            have HN : Hid (Keeps None w3 w4 ∧ ∃ g c fs, Value.slice (some ⟨we.heap.size + 1, 0, none⟩) (n + 1) cp = .slice (some ⟨g, 0, none⟩) (n + 1) c ∧ w3.heap.size ≤ g ∧ w4.ownsRow 0 65 6 (.slice (some ⟨g, 0, none⟩) (n + 1) c) (n + 1) fs) :=
              ⟨hKe.trans hk4 (fun _ f _ => f), _, _, _, rfl, by have := hKe.size; omega, ho4⟩
            clear ho4 hk4 hKq hke hKe H2
            go_wp2_with fail
            refine hen.mono ?_
            rintro e w' ⟨rfl, hw⟩
            have hw2 := hw.symm
            subst hw2
            clear hw hen
            go_wp2_with (at_builtin; refine wpList_append_run rfl (.tmp 29) (.tmp 33) 25 25 rfl rfl rfl hr ?_)
            exact ⟨⟨1, by decide, by simp, HN.out.1, .inr HN.out.2⟩, by simp [intOf]⟩
          · obtain ⟨g', cp, w4, hr, ho4, hk4, hm4⟩ := accs_more _ (n + q) fs we (hke.own hof (fun _ _ f => f)) #[.int .i64 (-3), .int .i64 9, .int .i64 (-4), .int .i64 (wrap64 (m + 7)), .int .i64 (wrap64 (-wrap64 (m + 7))), .bool true] rfl (ent_one _) (by omega)
            have HN : Hid (Keeps None w3 w4 ∧ ∃ g c fs, Value.slice (some ⟨g', 0, none⟩) (n + q + 1) cp = .slice (some ⟨g, 0, none⟩) (n + (q + 1)) c ∧ w3.heap.size ≤ g ∧ w4.ownsRow 0 65 6 (.slice (some ⟨g, 0, none⟩) (n + (q + 1)) c) (n + (q + 1)) fs) := by
              refine ⟨hKe.trans hk4 (fun i e hi => by simp [Value.ownBlock] at e; omega), g', cp, _, rfl, ?_, ho4⟩
              rcases hm4 with e | e
              · simp [Value.ownBlock] at e; omega
              · have := hKe.size; omega
            clear ho4 hk4 hKq hke hKe hm4 H2 hof
            go_wp2_with fail
            refine hen.mono ?_
            rintro e w' ⟨rfl, hw⟩
            have hw2 := hw.symm
            subst hw2
            clear hw hen
            go_wp2_with (at_builtin; refine wpList_append_run rfl (.tmp 29) (.tmp 33) 25 25 rfl rfl rfl hr ?_)
            exact ⟨⟨q + 1, by omega, by go_num, HN.out.1, .inr HN.out.2⟩, by simp [intOf]; omega⟩
        · obtain ⟨wa, hen1, ka1⟩ := entry_ex (wrap64 (m + 1)) wr
          have kA := hKq.trans ka1 (fun _ f _ => f)
          obtain ⟨p1, w5, hr1, ho5, hk5⟩ := accs_full ao n _ wa (kA.own H2.out.2.1 (fun _ _ f => f)) #[.int .i64 (-3), .int .i64 9, .int .i64 (-4), .int .i64 (wrap64 (m + 1)), .int .i64 (wrap64 (-wrap64 (m + 1))), .bool true] 1 (by decide) rfl (ent_one _) (by omega)
          have kB := kA.trans hk5 (fun _ f _ => f)
          obtain ⟨wb, hen2, kb1⟩ := entry_ex (wrap64 (m + 2)) w5
          obtain ⟨wc, hen3, kc1⟩ := entry_ex (wrap64 (m + 3)) wb
          have kC := (kB.trans kb1 (fun _ f _ => f)).trans kc1 (fun _ f _ => f)
          obtain ⟨p2, w6, hr2, ho6, hk6⟩ := accs_full ao n _ wc (kC.own H2.out.2.1 (fun _ _ f => f)) #[.int .i64 (-3), .int .i64 9, .int .i64 (-4), .int .i64 (wrap64 (m + 2)), .int .i64 (wrap64 (-wrap64 (m + 2))), .bool true, .int .i64 (-3), .int .i64 9, .int .i64 (-4), .int .i64 (wrap64 (m + 3)), .int .i64 (wrap64 (-wrap64 (m + 3))), .bool true] 2 (by decide) rfl (ent_two _ _) (by omega)
          have kD := kC.trans hk6 (fun _ f _ => f)
          obtain ⟨wd, hen4, kd1⟩ := entry_ex (wrap64 (m + 4)) w6
          obtain ⟨wf, hen5, kf1⟩ := entry_ex (wrap64 (m + 5)) wd
          obtain ⟨wg, hen6, kg1⟩ := entry_ex (wrap64 (m + 6)) wf
          have kE := ((kD.trans kd1 (fun _ f _ => f)).trans kf1 (fun _ f _ => f)).trans kg1 (fun _ f _ => f)
          obtain ⟨p3, w7, hr3, ho7, hk7⟩ := accs_full ao n _ wg (kE.own H2.out.2.1 (fun _ _ f => f)) #[.int .i64 (-3), .int .i64 9, .int .i64 (-4), .int .i64 (wrap64 (m + 4)), .int .i64 (wrap64 (-wrap64 (m + 4))), .bool true, .int .i64 (-3), .int .i64 9, .int .i64 (-4), .int .i64 (wrap64 (m + 5)), .int .i64 (wrap64 (-wrap64 (m + 5))), .bool true, .int .i64 (-3), .int .i64 9, .int .i64 (-4), .int .i64 (wrap64 (m + 6)), .int .i64 (wrap64 (-wrap64 (m + 6))), .bool true] 3 (by decide) rfl (ent_three _ _ _) (by omega)
          have kF := kE.trans hk7 (fun _ f _ => f)
          have hB8 := H2.out.1.kept kF (fun _ _ f => f)
          obtain ⟨g9, p9, w9, hr9, d9, f9, hB9, hk9, hm9⟩ := noted_append pb vn va (wrap64 (nx + 16)) nN nA xs ys m ao (some ⟨wa.heap.size + 1, 0, none⟩) (some ⟨wc.heap.size + 1, 0, none⟩) (some ⟨wg.heap.size + 1, 0, none⟩) n (n + 1) (n + 2) (n + 3) n p1 p2 p3 w7 hB8 hN
          have e0 : w7.cell? ⟨pb, 1, none⟩ = some va := (cell_of_block hB8.blk 1).trans rfl
          have e1 : (w7.alloc (.cells #[.int .i64 m, .slice ao n n, .slice (some ⟨wa.heap.size + 1, 0, none⟩) (n + 1) p1, .slice (some ⟨wc.heap.size + 1, 0, none⟩) (n + 2) p2, .slice (some ⟨wg.heap.size + 1, 0, none⟩) (n + 3) p3] 71)).cell? ⟨pb, 1, none⟩ = some va := (Keeps.alloc None w7 _).cell e0 (fun f => f)
          have HN : Hid (∃ ys', IsBook (w9.setCell ⟨pb, 1, none⟩ (.slice (some ⟨g9, 0, none⟩) (nA + 1) p9)) pb vn (.slice (some ⟨g9, 0, none⟩) (nA + 1) p9) (wrap64 (nx + 16)) nN (nA + 1) xs ys' ∧ Keeps (fun k => k = pb ∨ va.ownBlock = some k ∨ (Value.slice ao n n).ownBlock = some k) w (w9.setCell ⟨pb, 1, none⟩ (.slice (some ⟨g9, 0, none⟩) (nA + 1) p9)) ∧ Moved w va (.slice (some ⟨g9, 0, none⟩) (nA + 1) p9)) := by
            have ka := H2.out.2.2.trans kF (fun _ f _ => f.elim)
            refine ⟨_, hB9, ka.trans hk9 (fun i e _ => by rcases e with e | e; exact .inl e; exact .inr (.inl e)), ?_⟩
            rcases hm9 with hm | ⟨g', e, hg⟩
            · exact .inl hm
            · exact .inr ⟨g', e, by have := ka.size; omega⟩
          obtain ⟨av, cv, rfl⟩ := own_shape hB8.acc
          clear hB8 hB9 hk9 hm9 ho5 ho6 ho7 hk5 hk6 hk7 hKq hfar H2 ka1 kb1 kc1 kd1 kf1 kg1 kA kB kC kD kE kF
          go_wp2_with fail
          refine hen1.mono ?_
          rintro e w' ⟨rfl, hw⟩
          have hw2 := hw.symm
          subst hw2
          clear hw hen1
          go_wp2_with (at_builtin; refine wpList_append_run rfl (.tmp 35) (.tmp 39) 25 25 rfl rfl rfl hr1 ?_)
          refine hen2.mono ?_
          rintro e w' ⟨rfl, hw⟩
          have hw2 := hw.symm
          subst hw2
          clear hw hen2
          go_wp2_with fail
          refine hen3.mono ?_
          rintro e w' ⟨rfl, hw⟩
          have hw2 := hw.symm
          subst hw2
          clear hw hen3
          go_wp2_with (at_builtin; refine wpList_append_run rfl (.tmp 41) (.tmp 48) 25 25 rfl rfl rfl hr2 ?_)
          refine hen4.mono ?_
          rintro e w' ⟨rfl, hw⟩
          have hw2 := hw.symm
          subst hw2
          clear hw hen4
          go_wp2_with fail
          refine hen5.mono ?_
          rintro e w' ⟨rfl, hw⟩
          have hw2 := hw.symm
          subst hw2
          clear hw hen5
          go_wp2_with fail
          refine hen6.mono ?_
          rintro e w' ⟨rfl, hw⟩
          have hw2 := hw.symm
          subst hw2
          clear hw hen6
          go_wp2_with (first
            | (at_builtin; refine wpList_append_run rfl (.tmp 50) (.tmp 60) 25 25 rfl rfl rfl hr3 ?_)
            | (at_builtin; refine wpList_append_run rfl (.tmp 66) (.tmp 73) 34 34 rfl rfl rfl hr9 ?_))
          go_end0
          exact ⟨rfl, _, HN.out⟩
end Go.Proofs.Ytncbejpefokhhaa
