import Derived.Test.YtifhaomjobjjnaaRcGrow
/-! serially, Orders; the document's places and Orders. -/
namespace Go.Proofs.Ytifhaomjobjjnaa
set_option linter.unusedVariables false
set_option maxRecDepth 20000
set_option linter.unusedSimpArgs false
open Go.RowKit Go.HeapKit

/-- A block of numbers is a row of them. -/
theorem rowN_of_nums {w : World} {base g n : Nat} {N : Nat → Int} {L : List Nat} (hb : base ≤ g) (h : w.heap[g]? = some (.cells (numsA n N) 3 (0, 0))) (hl : L.length = n) (hN : ∀ (k x : Nat), L[k]? = some x → N k = (x : Int)) (hn : n ≤ 4096) : w.ownsRow base 3 1 (.slice (some ⟨g, 0, none⟩) n n) n (ivN L) := by
  refine ⟨by rw [ivN_len]; omega, .inr ⟨g, n, _, rfl, hb, h, Nat.le_refl _, by unfold maxLen; omega, by simp [numsA], ?_⟩⟩
  apply List.ext_getElem?
  intro k
  unfold numsA ivN
  by_cases hk : k < n
  · obtain ⟨x, hx⟩ : ∃ x, L[k]? = some x := ⟨L[k]'(by omega), by simp⟩
    simp [hk, hx, hN k x hx]
  · simp [hk, show ¬ k < L.length by omega]
set_option maxHeartbeats 1600000 in
theorem serially_ok (a : Option Addr) (n c : Nat) (w : World) (hn : n ≤ 4096) :
    Calls Try.prog 37 #[.slice a n c] w fun e w' => ∃ g, e = .returned (.slice (some ⟨g, 0, none⟩) n n) ∧ w'.ownsRow w.heap.size 3 1 (.slice (some ⟨g, 0, none⟩) n n) n (ivN (List.range n)) ∧ Keeps None w w' := by
  have hmk := make_nums n n (Nat.le_refl _) w (by omega)
  have b1 := heap_alloc_new w (.cells (numsA n (fun _ => 0)) 3)
  have k1 := Keeps.alloc None w (.cells (numsA n (fun _ => 0)) 3)
  obtain ⟨w1, hw1⟩ : ∃ w1, w1 = w.alloc (.cells (numsA n (fun _ => 0)) 3) := ⟨_, rfl⟩
  obtain ⟨g, hg⟩ : ∃ g, g = w.heap.size := ⟨_, rfl⟩
  rw [← hw1] at hmk b1 k1
  rw [← hg] at hmk b1
  have HG : Hid (g = w.heap.size) := hg
  have H1 : Hid (w1.heap[g]? = some (.cells (numsA n (fun _ => 0)) 3 (0, 0)) ∧ Keeps None w w1) := ⟨b1, k1⟩
  clear hw1 hg b1 k1
  go_enter Try.func37, Try.ntmps37
  go_wp2_with (at_make; refine wpList_make_run rfl (.tmp 6) (.tmp 6) 33 rfl rfl rfl hmk ?_)
  clear hmk
  go_loopw [4, 10] (fun _ i wr => ∃ (k : Nat) (N : Nat → Int), k ≤ n ∧ i = .int .i64 k ∧ wr.heap[g]? = some (.cells (numsA n N) 3 (0, 0)) ∧ (∀ j, j < k → N j = (j : Int)) ∧ Keeps None w wr) (fun _ i _ => n - (intOf i).toNat)
  case atStart => exact ⟨0, _, Nat.zero_le _, rfl, H1.out.1, fun j hj => by omega, H1.out.2⟩
  case round =>
    clear H1
    obtain ⟨k, N, hk, rfl, hb, hN, hkp⟩ := hrel
    by_cases hkn : k < n
    · have c0 : wr.cell? ⟨g, k, none⟩ = some (.int .i64 (N k)) := (cell_of_heap hb k).trans (nums_at _ _ hkn)
      have f0 := blk_free hb k
      have b2 := blk_set (i := k) hb (.int .i64 k)
      rw [nums_set] at b2
      have HN : Hid ((wr.setCell ⟨g, k, none⟩ (.int .i64 k)).heap[g]? = some (.cells (numsA n (upd N k k)) 3 (0, 0)) ∧ (∀ j, j < k + 1 → upd N k k j = (j : Int)) ∧ Keeps None w (wr.setCell ⟨g, k, none⟩ (.int .i64 k))) := by
        refine ⟨b2, fun j hj => ?_, hkp.andSet (x := ⟨g, k, none⟩) (.inr (by rw [HG.out]; exact Nat.le_refl _)) _⟩
        by_cases e : j = k
        · subst e; exact upd_eq _ _ _
        · rw [upd_ne e]; exact hN j (by omega)
      have i1 : (k : Int) < (n : Int) := by omega
      clear hb hN hkp b2
      go_wp2
      go_roundw
      case rel => exact ⟨k + 1, _, by omega, by go_num, HN.out⟩
      case measure => simp [intOf]; omega
    · have hkn2 : k = n := by omega
      subst hkn2
      have HN : Hid (wr.ownsRow w.heap.size 3 1 (.slice (some ⟨g, 0, none⟩) k k) k (ivN (List.range k)) ∧ Keeps None w wr) :=
        ⟨rowN_of_nums (by rw [HG.out]; exact Nat.le_refl _) hb (by simp) (fun q x hx => by
          have hq := (List.getElem?_eq_some_iff.1 hx).1
          rw [List.getElem?_range (by simpa using hq)] at hx
          injection hx with hx
          subst hx
          exact hN q (by simpa using hq)) hn, hkp⟩
      clear hb hN hkp
      go_wp2
      go_ret
      exact ⟨_, rfl, HN.out⟩
def ord1 (l : List Dd) : List Nat := if chkE l = 0 then List.range l.length else []
def ord2 (l : List Dd) : List Nat := if chkE l = 0 then Lof (stN l l.length) else []
/-- What Orders tells. -/
structure OrdP (l : List Dd) (w w' : World) (e : Ending) : Prop where
  ex : ∃ v1 v2, e = .returned (.tuple #[v1, v2, .int .i64 (chkE l)]) ∧ RowZ w' w.heap.size v1 (natZ (ord1 l)) ∧ RowZ w' w.heap.size v2 (natZ (ord2 l)) ∧ ∀ b, v1.ownBlock = some b → v2.ownBlock ≠ some b
  keep : Keeps None w w'
theorem natZ_len (L : List Nat) : (natZ L).length = L.length := by simp [natZ]
set_option maxHeartbeats 1600000 in
theorem orders_ok (a : Option Addr) (n c : Nat) (l : List Dd) (w : World) (hS : Seen w a n l) :
    Calls Try.prog 17 #[.slice a n c] w fun e w' => OrdP l w w' e := by
  have HS : Hid (Seen w a n l) := hS
  have HLen : Hid (n = l.length) := hS.len
  clear hS
  go_enter Try.func17, Try.ntmps17
  go_upto_region 2 with (go_at_call 10; refine Calls.mono (check_raw a n c l w HS.out) ?_; rintro _ w1 ⟨rfl, hk1⟩)
  obtain ⟨E, hE⟩ : ∃ E, E = chkE l := ⟨_, rfl⟩
  obtain ⟨A1, hA1⟩ : ∃ A1, A1 = chkA l := ⟨_, rfl⟩
  rw [← hE, ← hA1]
  have b2 := heap_alloc_new w1 (.cells #[.int .i64 E, .int .i64 A1] 26)
  have k2 := hk1.andAlloc (.cells #[.int .i64 E, .int .i64 A1] 26)
  obtain ⟨w2, hw2⟩ : ∃ w2, w2 = w1.alloc (.cells #[.int .i64 E, .int .i64 A1] 26) := ⟨_, rfl⟩
  obtain ⟨B, hB⟩ : ∃ B, B = w1.heap.size := ⟨_, rfl⟩
  rw [← hw2] at b2 k2
  rw [← hB] at b2
  rw [← hw2, ← hB]
  have g0 : w2.cell? ⟨B, 0, none⟩ = some (.int .i64 E) := cell_of_heap b2 0
  have HK : Hid (Keeps None w w2) := k2
  have HE : Hid (chkE l = E) := hE.symm
  clear b2 k2 hw2 hB hE hA1 hk1
  by_cases hE0 : E = 0
  · subst hE0
    obtain ⟨hn, hf⟩ := chk_fine HE.out
    have hn2 : n ≤ 4096 := by rw [HLen.out]; exact hn
    have HF : Hid (Fine l) := hf
    clear hn hf
    go_wp2_with (first
      | (go_at_call 37; refine Calls.mono (serially_ok a n c w2 hn2) ?_; rintro _ w3 ⟨g3, rfl, hr3, hk3⟩)
      | (go_at_call 35; refine Calls.mono (parentsFirst_ok a n c l w3 (HS.out.more (HK.out.trans hk3 (fun _ f _ => f))) HF.out hn2) ?_; rintro _ w4 ⟨g4, c4, rfl, hr4, hk4⟩))
    have o1 : ord1 l = List.range n := by unfold ord1; rw [if_pos HE.out, HLen.out]
    have o2 : ord2 l = Lof (stN l n) := by unfold ord2; rw [if_pos HE.out, HLen.out]
    have HQ : Hid (OrdP l w w4 (.returned (.tuple #[.slice (some ⟨g3, 0, none⟩) n n, .slice (some ⟨g4, 0, none⟩) n c4, .int .i64 0]))) := by
      obtain ⟨d, _, _, hI⟩ := HF.out.at n (by rw [HLen.out]; exact Nat.le_refl _)
      refine ⟨⟨_, _, by rw [HE.out], ?_, ?_, fun b e1 e2 => ?_⟩, (HK.out.trans hk3 (fun _ f _ => f)).trans hk4 (fun _ f _ => f)⟩
      · rw [o1]; unfold RowZ; rw [natZ_len, List.length_range, ← ivN_ivZ]
        exact row_base (row_kept hr3 hk4 (fun _ _ f => f)) HK.out.size
      · rw [o2]; unfold RowZ; rw [natZ_len, lof_len hI, ← ivN_ivZ]
        exact row_base hr4 (HK.out.trans hk3 (fun _ f _ => f)).size
      · simp [Value.ownBlock] at e1 e2
        have h1 := own_lt hr3 (g := g3) rfl
        have h2 := row_low hr4 (g := g4) rfl
        omega
    clear hr3 hk3 hr4 hk4 o1 o2
    go_ret3
    exact HQ.out
  · have HQ : Hid (∀ m, OrdP l w (w2.drewN m) (.returned (.tuple #[.slice none 0 0, .slice none 0 0, .int .i64 E]))) := by
      intro m
      have o1 : ord1 l = [] := by unfold ord1; rw [if_neg (fun h => hE0 (HE.out.symm.trans h))]
      have o2 : ord2 l = [] := by unfold ord2; rw [if_neg (fun h => hE0 (HE.out.symm.trans h))]
      refine ⟨⟨_, _, by rw [HE.out], ?_, ?_, fun b e1 e2 => by simp [Value.ownBlock] at e1⟩, HK.out.trans (keeps_drewN _ m) (fun _ f _ => f)⟩
      · rw [o1]; exact row_nil _ _ _ _
      · rw [o2]; exact row_nil _ _ _ _
    go_upto_region 3 with fail
    go_quiet (fail)
    go_wp2
    go_ret3
    exact HQ.out _
end Go.Proofs.Ytifhaomjobjjnaa
