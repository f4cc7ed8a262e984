import Derived.Test.YtncbejpefokhhaaBookAccess
/-! The book, and what its lists hold. -/
namespace Go.Proofs.Ytncbejpefokhhaa
set_option linter.unusedVariables false
open Go.RowKit Go.HeapKit

def blockOf (a : Option Addr) : Option Nat := a.map (·.block)
theorem rep_set {α : Type} (m : α) {zs : List α} {k : Nat} (hk : k < zs.length) : (List.replicate k m ++ zs.drop k).set k m = List.replicate (k + 1) m ++ zs.drop (k + 1) := by
  rw [List.set_append_right _ _ (by simp), List.length_replicate, Nat.sub_self, List.drop_eq_getElem_cons hk, List.set_cons_zero, List.replicate_succ', List.append_assoc]
  rfl
/-- A list of numbers in the book, and what came of it. -/
structure NOk (w : World) (m : Int) (ao : Option Addr) (n : Nat) (a1 : Option Addr) (c1 : Nat) (a2 : Option Addr) (c2 : Nat) (a3 : Option Addr) (c3 : Nat) : Prop where
  r0 : w.ownsRow 0 2 1 (.slice ao n n) n ((List.replicate n m).map (Value.int .i64))
  r1 : w.ownsRow 0 2 1 (.slice a1 (n + 1) c1) (n + 1) ((List.replicate n m ++ [wrap64 (m + 1)]).map (Value.int .i64))
  r2 : w.ownsRow 0 2 1 (.slice a2 (n + 2) c2) (n + 2) ((List.replicate n m ++ [wrap64 (m + 2), wrap64 (m + 3)]).map (Value.int .i64))
  r3 : w.ownsRow 0 2 1 (.slice a3 (n + 3) c3) (n + 3) ((List.replicate n m ++ [wrap64 (m + 4), wrap64 (m + 5), wrap64 (m + 6)]).map (Value.int .i64))

set_option maxHeartbeats 4000000 in
set_option maxRecDepth 100000 in
theorem numbers_in (pb : Nat) (vn va : Value) (nx : Int) (nN nA : Nat) (xs ys : List Value) (ao : Option Addr) (n : Nat) (zs : List Int) (w : World) (h : IsBook w pb vn va nx nN nA xs ys) (ho : w.ownsRow 0 2 1 (.slice ao n n) n (zs.map (Value.int .i64))) (hzs : zs.length = n) (hn : n ≤ 1048576) (hN : nN ≤ 2097152) :
    Calls Try.prog 10 #[.pointer (some ⟨pb, 0, none⟩), .slice ao n n] w fun e w' => e = .returned (.tuple #[]) ∧ ∃ vn' a1 a2 a3 c1 c2 c3, IsBook w' pb vn' va (wrap64 (nx + 16)) (nN + 1) nA (xs ++ [.int .i64 (markOf nx), .slice ao n n, .slice a1 (n + 1) c1, .slice a2 (n + 2) c2, .slice a3 (n + 3) c3]) ys ∧ NOk w' (markOf nx) ao n a1 c1 a2 c2 a3 c3 ∧ (∀ k, blockOf a1 = some k ∨ blockOf a2 = some k ∨ blockOf a3 = some k → w.heap.size ≤ k) ∧
      Keeps (fun k => k = pb ∨ vn.ownBlock = some k ∨ (Value.slice ao n n).ownBlock = some k) w w' ∧ Moved w vn vn' := by
  have HH : Hid (IsBook w pb vn va nx nN nA xs ys ∧ w.ownsRow 0 2 1 (.slice ao n n) n (zs.map (Value.int .i64))) := ⟨h, ho⟩
  have hmk := mark_book pb vn va nx nN nA xs ys w h
  clear h ho
  generalize hmm : markOf nx = m at hmk ⊢
  clear hmm
  go_enter Try.func10, Try.ntmps10
  go_wp2_with fail
  refine hmk.mono ?_
  rintro e w1 ⟨rfl, hB1, hk1⟩
  have ho1 := hk1.own HH.out.2 (fun k e e2 => HH.out.1.apart HH.out.2 (by decide) (by decide) (by decide) (.inl e2) e)
  have H1 : Hid (IsBook w1 pb vn va (wrap64 (nx + 16)) nN nA xs ys ∧ w1.ownsRow 0 2 1 (.slice ao n n) n (zs.map (Value.int .i64)) ∧ Keeps (fun k => k = pb ∨ vn.ownBlock = some k ∨ (Value.slice ao n n).ownBlock = some k) w w1) := ⟨hB1, ho1, hk1.mono (fun _ e _ => .inl e)⟩
  clear hmk hB1 hk1 ho1
  go_wp2_with fail
  go_loopw [5] (fun i wr => ∃ k : Nat, k ≤ n ∧ i = .int .i64 k ∧ IsBook wr pb vn va (wrap64 (nx + 16)) nN nA xs ys ∧ wr.ownsRow 0 2 1 (.slice ao n n) n ((List.replicate k m ++ zs.drop k).map (Value.int .i64)) ∧ Keeps (fun k => k = pb ∨ vn.ownBlock = some k ∨ (Value.slice ao n n).ownBlock = some k) w wr) (fun i _ => n - (intOf i).toNat)
  case atStart => exact ⟨0, Nat.zero_le _, rfl, H1.out.1, by simpa using H1.out.2.1, H1.out.2.2⟩
  case round =>
    clear H1
    obtain ⟨k, hk, rfl, hB, hq, hK⟩ := hrel
    obtain ⟨qs, hqsd⟩ : ∃ qs, qs = List.replicate k m ++ zs.drop k := ⟨_, rfl⟩
    have hqs : qs.length = n := by rw [hqsd]; simp; omega
    rw [← hqsd] at hq
    by_cases hkn : k < n
    · obtain ⟨g, rfl, hc, hfz, hnext⟩ : ∃ g, ao = some ⟨g, 0, none⟩ ∧ (∃ u, wr.cell? ⟨g, k, none⟩ = some u) ∧ wr.frozen? ⟨g, k, none⟩ = false ∧ (wr.setCell ⟨g, k, none⟩ (.int .i64 m)).ownsRow 0 2 1 (.slice ao n n) n ((qs.set k m).map (Value.int .i64)) := by
        rcases hq.2 with ⟨_, h0⟩ | ⟨g, cap', cur, he, _, hg, _, _, hcs, ht⟩
        · omega
        · injection he with e1 e2 e3
          subst e1
          refine ⟨g, rfl, ⟨_, (cell_of_block hg k).trans (Array.getElem?_eq_getElem (by omega))⟩, free_of_block hg k, ?_⟩
          rw [List.map_set]
          exact own_set hq k _
      obtain ⟨u, hc⟩ := hc
      have hks : Keeps (· = g) wr (wr.setCell ⟨g, k, none⟩ (.int .i64 m)) := Keeps.setCell (S := (· = g)) wr (a := ⟨g, k, none⟩) rfl _
      have HN : Hid (IsBook (wr.setCell ⟨g, k, none⟩ (.int .i64 m)) pb vn va (wrap64 (nx + 16)) nN nA xs ys ∧ (wr.setCell ⟨g, k, none⟩ (.int .i64 m)).ownsRow 0 2 1 (.slice (some ⟨g, 0, none⟩) n n) n ((List.replicate (k + 1) m ++ zs.drop (k + 1)).map (Value.int .i64)) ∧ Keeps (fun k => k = pb ∨ vn.ownBlock = some k ∨ (Value.slice (some ⟨g, 0, none⟩) n n).ownBlock = some k) w (wr.setCell ⟨g, k, none⟩ (.int .i64 m))) :=
        ⟨hB.kept hks (fun i hi e => hB.apart hq (by decide) (by decide) (by decide) hi (by rw [e]; rfl)), by rw [← rep_set m (by omega : k < zs.length), ← hqsd]; exact hnext, hK.andSet (x := ⟨g, k, none⟩) (.inl (.inr (.inr rfl))) _⟩
      have i1 : (k : Int) < (n : Int) := by omega
      clear hnext hks hB hq hK HH hqsd hqs
      go_wp2
      go_roundw
      case rel => exact ⟨k + 1, by omega, by go_num, HN.out⟩
      case measure => simp [intOf]; omega
    · have hqn : qs = List.replicate n m := by rw [hqsd, show k = n by omega, List.drop_eq_nil_of_le (by omega), List.append_nil]
      have HQN : Hid (qs = List.replicate n m) := hqn
      clear hqn hqsd
      have H2 : Hid (IsBook wr pb vn va (wrap64 (nx + 16)) nN nA xs ys ∧ wr.ownsRow 0 2 1 (.slice ao n n) n (qs.map (Value.int .i64)) ∧ Keeps (fun k => k = pb ∨ vn.ownBlock = some k ∨ (Value.slice ao n n).ownBlock = some k) w wr) := ⟨hB, hq, hK⟩
      clear hB hq hK
      obtain ⟨w3, hw3⟩ : ∃ w3, w3 = wr := ⟨_, rfl⟩
      subst hw3
      clear HH hzs hqs
      go_wp2_with fail
      go_loopw [6, 7] (fun l i wr => ∃ k : Nat, k ≤ 64 ∧ i = .int .i64 k ∧ Keeps None w3 wr ∧ ((k = 0 ∧ l = .slice ao n n) ∨ ∃ g c fs, l = .slice (some ⟨g, 0, none⟩) (n + k) c ∧ w3.heap.size ≤ g ∧ wr.ownsRow 0 2 1 (.slice (some ⟨g, 0, none⟩) (n + k) c) (n + k) ((fs : List Int).map (Value.int .i64)))) (fun _ i _ => 64 - (intOf i).toNat)
      case atStart => exact ⟨0, Nat.zero_le _, rfl, Keeps.refl _ _, .inl ⟨rfl, rfl⟩⟩
      case round =>
        obtain ⟨q, hq, rfl, hKq, hfar⟩ := hrel
        by_cases hq64 : q < 64
        · rcases hfar with ⟨rfl, rfl⟩ | ⟨g, c, fs, rfl, hg, hof⟩
          · obtain ⟨cp, w4, hr, ho4, hk4⟩ := nums_full ao n _ wr (hKq.own H2.out.2.1 (fun _ _ f => f)) [wrap64 (m + 7)] (by simp) (by simp; omega)
            have HN : Hid (Keeps None w3 w4 ∧ ∃ g c fs, Value.slice (some ⟨wr.heap.size + 1, 0, none⟩) (n + 1) cp = .slice (some ⟨g, 0, none⟩) (n + 1) c ∧ w3.heap.size ≤ g ∧ w4.ownsRow 0 2 1 (.slice (some ⟨g, 0, none⟩) (n + 1) c) (n + 1) ((fs : List Int).map (Value.int .i64))) :=
              ⟨hKq.trans hk4 (fun _ f _ => f), _, _, qs ++ [wrap64 (m + 7)], rfl, by have := hKq.size; omega, by simpa using ho4⟩
            clear ho4 hk4 hKq H2
            go_wp2_with (at_builtin; refine wpList_append_run rfl (.tmp 28) (.tmp 31) 24 24 rfl rfl rfl hr ?_)
            exact ⟨⟨1, by decide, by simp, HN.out.1, .inr HN.out.2⟩, by simp [intOf]⟩
          · obtain ⟨g', cp, w4, hr, ho4, hk4, hm4⟩ := nums_more _ (n + q) fs wr hof (wrap64 (m + 7)) (by omega)
            have HN : Hid (Keeps None w3 w4 ∧ ∃ g c fs, Value.slice (some ⟨g', 0, none⟩) (n + q + 1) cp = .slice (some ⟨g, 0, none⟩) (n + (q + 1)) c ∧ w3.heap.size ≤ g ∧ w4.ownsRow 0 2 1 (.slice (some ⟨g, 0, none⟩) (n + (q + 1)) c) (n + (q + 1)) ((fs : List Int).map (Value.int .i64))) := by
              refine ⟨hKq.trans hk4 (fun i e hi => by simp [Value.ownBlock] at e; omega), g', cp, _, rfl, ?_, ho4⟩
              rcases hm4 with e | e
              · simp [Value.ownBlock] at e; omega
              · have := hKq.size; omega
            clear ho4 hk4 hKq hm4 H2
            go_wp2_with (at_builtin; refine wpList_append_run rfl (.tmp 28) (.tmp 31) 24 24 rfl rfl rfl hr ?_)
            exact ⟨⟨q + 1, by omega, by go_num, HN.out.1, .inr HN.out.2⟩, by simp [intOf]; omega⟩
        · have hl5 := hKq.own H2.out.2.1 (fun _ _ f => f)
          have hB5 := H2.out.1.kept hKq (fun _ _ f => f)
          obtain ⟨p1, w5, hr1, ho5, hk5⟩ := nums_full ao n _ wr hl5 [wrap64 (m + 1)] (by simp) (by simp; omega)
          have hl6 := hk5.own hl5 (fun _ _ f => f)
          have hB6 := hB5.kept hk5 (fun _ _ f => f)
          obtain ⟨p2, w6, hr2, ho6, hk6⟩ := nums_full ao n _ w5 hl6 [wrap64 (m + 2), wrap64 (m + 3)] (by simp) (by simp; omega)
          have hl7 := hk6.own hl6 (fun _ _ f => f)
          have hB7 := hB6.kept hk6 (fun _ _ f => f)
          obtain ⟨p3, w7, hr3, ho7, hk7⟩ := nums_full ao n _ w6 hl7 [wrap64 (m + 4), wrap64 (m + 5), wrap64 (m + 6)] (by simp) (by simp; omega)
          have hB8 := hB7.kept hk7 (fun _ _ f => f)
          obtain ⟨g9, p9, w9, hr9, d9, f9, hB9, hk9, hm9⟩ := kept_append pb vn va (wrap64 (nx + 16)) nN nA xs ys m ao (some ⟨wr.heap.size + 1, 0, none⟩) (some ⟨w5.heap.size + 1, 0, none⟩) (some ⟨w6.heap.size + 1, 0, none⟩) n (n + 1) (n + 2) (n + 3) n p1 p2 p3 w7 hB8 hN
          have e0 : w7.cell? ⟨pb, 0, none⟩ = some vn := (cell_of_block hB8.blk 0).trans rfl
          have e1 : (w7.alloc (.cells #[.int .i64 m, .slice ao n n, .slice (some ⟨wr.heap.size + 1, 0, none⟩) (n + 1) p1, .slice (some ⟨w5.heap.size + 1, 0, none⟩) (n + 2) p2, .slice (some ⟨w6.heap.size + 1, 0, none⟩) (n + 3) p3] 68)).cell? ⟨pb, 0, none⟩ = some vn := (Keeps.alloc None w7 _).cell e0 (fun f => f)
          have HN : Hid (∃ a1 a2 a3 c1 c2 c3, IsBook (w9.setCell ⟨pb, 0, none⟩ (.slice (some ⟨g9, 0, none⟩) (nN + 1) p9)) pb (.slice (some ⟨g9, 0, none⟩) (nN + 1) p9) va (wrap64 (nx + 16)) (nN + 1) nA (xs ++ [.int .i64 m, .slice ao n n, .slice a1 (n + 1) c1, .slice a2 (n + 2) c2, .slice a3 (n + 3) c3]) ys ∧ NOk (w9.setCell ⟨pb, 0, none⟩ (.slice (some ⟨g9, 0, none⟩) (nN + 1) p9)) m ao n a1 c1 a2 c2 a3 c3 ∧ (∀ k, blockOf a1 = some k ∨ blockOf a2 = some k ∨ blockOf a3 = some k → w.heap.size ≤ k) ∧ Keeps (fun k => k = pb ∨ vn.ownBlock = some k ∨ (Value.slice ao n n).ownBlock = some k) w (w9.setCell ⟨pb, 0, none⟩ (.slice (some ⟨g9, 0, none⟩) (nN + 1) p9)) ∧ Moved w vn (.slice (some ⟨g9, 0, none⟩) (nN + 1) p9)) := by
            have ka := (((H2.out.2.2.trans hKq (fun _ f _ => f.elim)).trans hk5 (fun _ f _ => f.elim)).trans hk6 (fun _ f _ => f.elim)).trans hk7 (fun _ f _ => f.elim)
            have hx : ∀ {v : Value} {N : Nat} {zz : List Value}, w7.ownsRow 0 2 1 v N zz → (w9.setCell ⟨pb, 0, none⟩ (.slice (some ⟨g9, 0, none⟩) (nN + 1) p9)).ownsRow 0 2 1 v N zz := fun {v N zz} ho => hk9.own ho (fun i e e2 => by
              rcases e2 with e2 | e2
              · exact hB8.apart ho (by decide) (by decide) (by decide) (.inl e2) e
              · exact hB8.apart ho (by decide) (by decide) (by decide) (.inr (.inl e2)) e)
            have s0 := H2.out.2.2.size
            have s1 := hKq.size
            have s2 := hk5.size
            have s3 := hk6.size
            refine ⟨_, _, _, _, _, _, hB9, ⟨HQN.out ▸ hx (hk7.own hl7 (fun _ _ f => f)), HQN.out ▸ hx (by simpa using hk7.own (hk6.own ho5 (fun _ _ f => f)) (fun _ _ f => f)), HQN.out ▸ hx (by simpa using hk7.own ho6 (fun _ _ f => f)), HQN.out ▸ hx (by simpa using ho7)⟩, (fun k e => by simp only [blockOf, Option.map_some, Option.some.injEq] at e; omega), ka.trans hk9 (fun i e _ => by rcases e with e | e; exact .inl e; exact .inr (.inl e)), ?_⟩
            rcases hm9 with hm | ⟨g', e, hg⟩
            · exact .inl hm
            · exact .inr ⟨g', e, by have := ka.size; omega⟩
          obtain ⟨av, cv, rfl⟩ := own_shape hB8.num
          clear hl5 hB5 hl6 hB6 hl7 hB7 hB8 hB9 hk9 hm9 ho5 ho6 ho7 hk5 hk6 hk7 hKq hfar H2 HQN
          go_wp2_with (first
            | (at_builtin; refine wpList_append_run rfl (.tmp 33) (.tmp 36) 24 24 rfl rfl rfl hr1 ?_)
            | (at_builtin; refine wpList_append_run rfl (.tmp 38) (.tmp 43) 24 24 rfl rfl rfl hr2 ?_)
            | (at_builtin; refine wpList_append_run rfl (.tmp 45) (.tmp 52) 24 24 rfl rfl rfl hr3 ?_)
            | (at_builtin; refine wpList_append_run rfl (.tmp 58) (.tmp 65) 33 33 rfl rfl rfl hr9 ?_))
          go_end0
          exact ⟨rfl, _, HN.out⟩
end Go.Proofs.Ytncbejpefokhhaa
