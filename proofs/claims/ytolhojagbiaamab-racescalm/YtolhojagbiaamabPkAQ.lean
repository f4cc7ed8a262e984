import Derived.Test.YtolhojagbiaamabPkAF
import Derived.Test.YtolhojagbiaamabPkAP
/-! serially, Orders; the document's places and Orders. -/
namespace Go.Proofs.Ytolhojagbiaamab
set_option linter.unusedVariables false
set_option maxRecDepth 20000
set_option linter.unusedSimpArgs false
open Go.RowKit Go.HeapKit

/-- A block of numbers is a row of them. -/
theorem rowN_of_nums {w : World} {base g n : Nat} {N : Nat → Int} {L : List Nat} (hb : base ≤ g) (h : w.heap[g]? = some (.cells (numsA n N) 3 (0, 0))) (hl : L.length = n) (hN : ∀ (k x : Nat), L[k]? = some x → N k = (x : Int)) (hn : n ≤ 4096) : w.ownsRow base 3 1 (.slice (some ⟨g, 0, none⟩) n n) n (ivN L) := by
  refine ⟨by rw [ivN_len]; omega, .inr ⟨g, n, _, rfl, hb, h, Nat.le_refl _, by unfold maxLen; omega, by simp [numsA], ?_⟩⟩
  apply List.ext_getElem?
  intro k
  unfold numsA ivN
  by_cases hk : k < n
  · obtain ⟨x, hx⟩ : ∃ x, L[k]? = some x := ⟨L[k]'(by omega), by simp⟩
    simp [hk, hx, hN k x hx]
  · simp [hk, show ¬ k < L.length by omega]
set_option maxHeartbeats 1600000 in
theorem serially_ok (a : Option Addr) (n c : Nat) (w : World) (hn : n ≤ 4096) :
    Calls Try.prog 26 #[.slice a n c] w fun e w' => ∃ g, e = .returned (.slice (some ⟨g, 0, none⟩) n n) ∧ w'.ownsRow w.heap.size 3 1 (.slice (some ⟨g, 0, none⟩) n n) n (ivN (List.range n)) ∧ Keeps None w w' := by
  have hmk := make_nums n n (Nat.le_refl _) w (by omega)
  have b1 := heap_alloc_new w (.cells (numsA n (fun _ => 0)) 3)
  have k1 := Keeps.alloc None w (.cells (numsA n (fun _ => 0)) 3)
  obtain ⟨w1, hw1⟩ : ∃ w1, w1 = w.alloc (.cells (numsA n (fun _ => 0)) 3) := ⟨_, rfl⟩
  obtain ⟨g, hg⟩ : ∃ g, g = w.heap.size := ⟨_, rfl⟩
  rw [← hw1] at hmk b1 k1
  rw [← hg] at hmk b1
  have HG : Hid (g = w.heap.size) := hg
  have H1 : Hid (w1.heap[g]? = some (.cells (numsA n (fun _ => 0)) 3 (0, 0)) ∧ Keeps None w w1) := ⟨b1, k1⟩
  clear hw1 hg b1 k1
  go_enter Try.func26, Try.ntmps26
  go_wp2_with (at_make; refine wpList_make_run rfl (.tmp 6) (.tmp 6) 35 rfl rfl rfl hmk ?_)
  clear hmk
  go_loopw [4, 10] (fun _ i wr => ∃ (k : Nat) (N : Nat → Int), k ≤ n ∧ i = .int .i64 k ∧ wr.heap[g]? = some (.cells (numsA n N) 3 (0, 0)) ∧ (∀ j, j < k → N j = (j : Int)) ∧ Keeps None w wr) (fun _ i _ => n - (intOf i).toNat)
  case atStart => exact ⟨0, _, Nat.zero_le _, rfl, H1.out.1, fun j hj => by omega, H1.out.2⟩
  case round =>
    clear H1
    obtain ⟨k, N, hk, rfl, hb, hN, hkp⟩ := hrel
    by_cases hkn : k < n
    · have c0 : wr.cell? ⟨g, k, none⟩ = some (.int .i64 (N k)) := (cell_of_heap hb k).trans (nums_at _ _ hkn)
      have f0 := blk_free hb k
      have b2 := blk_set (i := k) hb (.int .i64 k)
      rw [nums_set] at b2
      have HN : Hid ((wr.setCell ⟨g, k, none⟩ (.int .i64 k)).heap[g]? = some (.cells (numsA n (upd N k k)) 3 (0, 0)) ∧ (∀ j, j < k + 1 → upd N k k j = (j : Int)) ∧ Keeps None w (wr.setCell ⟨g, k, none⟩ (.int .i64 k))) := by
        refine ⟨b2, fun j hj => ?_, hkp.andSet (x := ⟨g, k, none⟩) (.inr (by rw [HG.out]; exact Nat.le_refl _)) _⟩
        by_cases e : j = k
        · subst e; exact upd_eq _ _ _
        · rw [upd_ne e]; exact hN j (by omega)
      have i1 : (k : Int) < (n : Int) := by omega
      clear hb hN hkp b2
      go_wp2
      go_roundw
      case rel => exact ⟨k + 1, _, by omega, by go_num, HN.out⟩
      case measure => simp [intOf]; omega
    · have hkn2 : k = n := by omega
      subst hkn2
      have HN : Hid (wr.ownsRow w.heap.size 3 1 (.slice (some ⟨g, 0, none⟩) k k) k (ivN (List.range k)) ∧ Keeps None w wr) :=
        ⟨rowN_of_nums (by rw [HG.out]; exact Nat.le_refl _) hb (by simp) (fun q x hx => by
          have hq := (List.getElem?_eq_some_iff.1 hx).1
          rw [List.getElem?_range (by simpa using hq)] at hx
          injection hx with hx
          subst hx
          exact hN q (by simpa using hq)) hn, hkp⟩
      clear hb hN hkp
      go_wp2
      go_ret
      exact ⟨_, rfl, HN.out⟩
def ord1 (l : List Dd) : List Nat := if chkE l = 0 then List.range l.length else []
def ord2 (l : List Dd) : List Nat := if chkE l = 0 then Lof (stN l l.length) else []
/-- What Orders tells. -/
structure OrdP (l : List Dd) (w w' : World) (e : Ending) : Prop where
  ex : ∃ v1 v2, e = .returned (.tuple #[v1, v2, .int .i64 (chkE l)]) ∧ RowZ w' w.heap.size v1 (natZ (ord1 l)) ∧ RowZ w' w.heap.size v2 (natZ (ord2 l)) ∧ ∀ b, v1.ownBlock = some b → v2.ownBlock ≠ some b
  keep : Keeps None w w'
theorem natZ_len (L : List Nat) : (natZ L).length = L.length := by simp [natZ]
set_option maxHeartbeats 1600000 in
theorem orders_ok (a : Option Addr) (n c : Nat) (l : List Dd) (w : World) (hS : Seen w a n l) :
    Calls Try.prog 12 #[.slice a n c] w fun e w' => OrdP l w w' e := by
  have HS : Hid (Seen w a n l) := hS
  have HLen : Hid (n = l.length) := hS.len
  clear hS
  go_enter Try.func12, Try.ntmps12
  go_upto_region 2 with (go_at_call 22; refine Calls.mono (check_raw a n c l w HS.out) ?_; rintro _ w1 ⟨rfl, hk1⟩)
  obtain ⟨E, hE⟩ : ∃ E, E = chkE l := ⟨_, rfl⟩
  obtain ⟨A1, hA1⟩ : ∃ A1, A1 = chkA l := ⟨_, rfl⟩
  rw [← hE, ← hA1]
  have b2 := heap_alloc_new w1 (.cells #[.int .i64 E, .int .i64 A1] 54)
  have k2 := hk1.andAlloc (.cells #[.int .i64 E, .int .i64 A1] 54)
  obtain ⟨w2, hw2⟩ : ∃ w2, w2 = w1.alloc (.cells #[.int .i64 E, .int .i64 A1] 54) := ⟨_, rfl⟩
  obtain ⟨B, hB⟩ : ∃ B, B = w1.heap.size := ⟨_, rfl⟩
  rw [← hw2] at b2 k2
  rw [← hB] at b2
  rw [← hw2, ← hB]
  have g0 : w2.cell? ⟨B, 0, none⟩ = some (.int .i64 E) := cell_of_heap b2 0
  have HK : Hid (Keeps None w w2) := k2
  have HE : Hid (chkE l = E) := hE.symm
  clear b2 k2 hw2 hB hE hA1 hk1
  by_cases hE0 : E = 0
  · subst hE0
    obtain ⟨hn, hf⟩ := chk_fine HE.out
    have hn2 : n ≤ 4096 := by rw [HLen.out]; exact hn
    have HF : Hid (Fine l) := hf
    clear hn hf
    go_wp2_with (first
      | (go_at_call 26; refine Calls.mono (serially_ok a n c w2 hn2) ?_; rintro _ w3 ⟨g3, rfl, hr3, hk3⟩)
      | (go_at_call 25; refine Calls.mono (parentsFirst_ok a n c l w3 (HS.out.more (HK.out.trans hk3 (fun _ f _ => f))) HF.out hn2) ?_; rintro _ w4 ⟨g4, c4, rfl, hr4, hk4⟩))
    have o1 : ord1 l = List.range n := by unfold ord1; rw [if_pos HE.out, HLen.out]
    have o2 : ord2 l = Lof (stN l n) := by unfold ord2; rw [if_pos HE.out, HLen.out]
    have HQ : Hid (OrdP l w w4 (.returned (.tuple #[.slice (some ⟨g3, 0, none⟩) n n, .slice (some ⟨g4, 0, none⟩) n c4, .int .i64 0]))) := by
      obtain ⟨d, _, _, hI⟩ := HF.out.at n (by rw [HLen.out]; exact Nat.le_refl _)
      refine ⟨⟨_, _, by rw [HE.out], ?_, ?_, fun b e1 e2 => ?_⟩, (HK.out.trans hk3 (fun _ f _ => f)).trans hk4 (fun _ f _ => f)⟩
      · rw [o1]; unfold RowZ; rw [natZ_len, List.length_range, ← ivN_ivZ]
        exact row_base (row_kept hr3 hk4 (fun _ _ f => f)) HK.out.size
      · rw [o2]; unfold RowZ; rw [natZ_len, lof_len hI, ← ivN_ivZ]
        exact row_base hr4 (HK.out.trans hk3 (fun _ f _ => f)).size
      · simp [Value.ownBlock] at e1 e2
        have h1 := own_lt hr3 (g := g3) rfl
        have h2 := row_low hr4 (g := g4) rfl
        omega
    clear hr3 hk3 hr4 hk4 o1 o2
    go_ret3
    exact HQ.out
  · have HQ : Hid (∀ m, OrdP l w (w2.drewN m) (.returned (.tuple #[.slice none 0 0, .slice none 0 0, .int .i64 E]))) := by
      intro m
      have o1 : ord1 l = [] := by unfold ord1; rw [if_neg (fun h => hE0 (HE.out.symm.trans h))]
      have o2 : ord2 l = [] := by unfold ord2; rw [if_neg (fun h => hE0 (HE.out.symm.trans h))]
      refine ⟨⟨_, _, by rw [HE.out], ?_, ?_, fun b e1 e2 => by simp [Value.ownBlock] at e1⟩, HK.out.trans (keeps_drewN _ m) (fun _ f _ => f)⟩
      · rw [o1]; exact row_nil _ _ _ _
      · rw [o2]; exact row_nil _ _ _ _
    go_upto_region 3 with fail
    go_quiet (fail)
    go_wp2
    go_ret3
    exact HQ.out _
end Go.Proofs.Ytolhojagbiaamab
/-! hire. -/
namespace Go.Proofs.Ytolhojagbiaamab
set_option linter.unusedVariables false
set_option maxRecDepth 20000
set_option linter.unusedSimpArgs false
open Go.RowKit Go.HeapKit

theorem hire_len (l : List Dd) : ∀ n, (hireN l n).T ≤ n + 1 ∧ ∀ t, ((hireN l n).D t).length ≤ n
  | 0 => ⟨Nat.le_refl _, fun t => Nat.zero_le _⟩
  | n + 1 => by
    obtain ⟨h1, h2⟩ := hire_len l n
    have hD : ∀ t, (updF (hireN l n).D (hireN l n).now ((hireN l n).D (hireN l n).now ++ [n]) t).length ≤ n + 1 := fun t => by
      by_cases e : t = (hireN l n).now
      · rw [e, updF_eq]; have := h2 (hireN l n).now; simp; omega
      · rw [updF_ne e]; have := h2 t; omega
    by_cases k0 : kdN l n = 0
    · rw [hire0 k0]; exact ⟨by simp; omega, hD⟩
    · by_cases k1 : kdN l n = 1
      · rw [hire1 k1]; exact ⟨by simp; omega, hD⟩
      · rw [hire2 k0 k1]; exact ⟨by simp; omega, hD⟩
theorem HInv.nowlt {l : List Dd} {n : Nat} {s : Cw} {ids : List Nat} (h : HInv l n s ids) : s.now < s.T := by
  have hc := h.chn
  have hh := h.head
  cases ids with
  | nil => cases hh
  | cons i is =>
    injection hh with hh
    subst hh
    cases hst : stN l n with
    | nil => rw [hst] at hc; exact hc.elim
    | cons t r => rw [hst] at hc; exact hc.1.lt
theorem HInv.up {l : List Dd} {n : Nat} {s : Cw} {ids : List Nat} (h : HInv l n s ids) (hf : Fine l) (hn : n < l.length) (hk : kdN l n = 1) : ∃ j : Nat, s.par s.now = (j : Int) := by
  have hl := (hf.kind hn).2.2 hk
  have hc := h.chn
  have hh := h.head
  cases ids with
  | nil => cases hh
  | cons i is =>
    injection hh with hh
    subst hh
    cases hst : stN l n with
    | nil => rw [hst] at hl; simp at hl
    | cons t r =>
      rw [hst] at hc hl
      cases r with
      | nil => simp at hl
      | cons u r' =>
        cases is with
        | nil => exact hc.2.2.elim
        | cons j is' => exact ⟨j, hc.2.1.2.2.1⟩
/-- What the rows hold. -/
structure CrP (s : Cw) (dn : Nat → Nat) (L : Nat → List Int) : Prop where
  dn : L 0 = (List.range s.T).map (fun t => (dn t : Int))
  par : L 1 = (List.range s.T).map s.par
  bo : L 2 = (List.range s.T).map s.bo
  D : ∀ t, L (6 + t) = natZ (s.D t)
/-- The rows 3, 4 and 5 are empty. -/
structure Emp (K : Nat → Value) (L : Nat → List Int) : Prop where
  k : K 3 = .slice none 0 0 ∧ K 4 = .slice none 0 0 ∧ K 5 = .slice none 0 0
  l : L 3 = [] ∧ L 4 = [] ∧ L 5 = []
theorem range_map_get {α : Type} (f : Nat → α) {T t : Nat} (h : t < T) : ((List.range T).map f)[t]? = some (f t) := by simp [h]
theorem range_map_put {α : Type} (f : Nat → α) (T : Nat) (v : α) : (List.range (T + 1)).map (updF f T v) = (List.range T).map f ++ [v] := by
  rw [List.range_succ, List.map_append, List.map_singleton, updF_eq]
  congr 1
  apply List.map_congr_left
  intro t ht
  rw [updF_ne (by rw [List.mem_range] at ht; omega)]
theorem natZ_put (L : List Nat) (n : Nat) : natZ (L ++ [n]) = natZ L ++ [(n : Int)] := by simp [natZ]
def hK0 (s : Nat) : Nat → Value := fun k => if k = 0 then .slice (some ⟨s + 1, 0, none⟩) 1 1 else if k = 1 then .slice (some ⟨s + 1 + 1, 0, none⟩) 1 1 else if k = 2 then .slice (some ⟨s + 1 + 1 + 1, 0, none⟩) 1 1 else .slice none 0 0
def hL0 : Nat → List Int := fun k => if k = 0 then [0] else if k = 1 then [-1] else if k = 2 then [-1] else []
theorem one_row {w : World} {base g : Nat} {e : TypeId} {x : Value} (h : w.heap[g]? = some (.cells #[x] e (0, 0))) (hb : base ≤ g) : w.ownsRow base e 1 (.slice (some ⟨g, 0, none⟩) 1 1) 1 [x] :=
  ⟨rfl, .inr ⟨g, 1, #[x], rfl, hb, h, Nat.le_refl _, by unfold maxLen; omega, rfl, rfl⟩⟩
theorem crew_new (w : World) : CrM w (((((w.alloc (.cells #[.slice none 0 0] 35)).alloc (.cells #[.int .i64 0] 3)).alloc (.cells #[.int .i64 (-1)] 3)).alloc (.cells #[.int .i64 (-1)] 3)).alloc (.cells #[.slice (some ⟨w.heap.size, 0, none⟩) 1 1, .slice (some ⟨w.heap.size + 1, 0, none⟩) 1 1, .slice (some ⟨w.heap.size + 1 + 1, 0, none⟩) 1 1, .slice (some ⟨w.heap.size + 1 + 1 + 1, 0, none⟩) 1 1] 43)) (w.heap.size + 1 + 1 + 1 + 1) 1 (.slice (some ⟨w.heap.size, 0, none⟩) 1 1) (hK0 w.heap.size) hL0 := by
  obtain ⟨b1, b2, b3, b4, b5⟩ := five_at w (.cells #[.slice none 0 0] 35) (.cells #[.int .i64 0] 3) (.cells #[.int .i64 (-1)] 3) (.cells #[.int .i64 (-1)] 3) (.cells #[.slice (some ⟨w.heap.size, 0, none⟩) 1 1, .slice (some ⟨w.heap.size + 1, 0, none⟩) 1 1, .slice (some ⟨w.heap.size + 1 + 1, 0, none⟩) 1 1, .slice (some ⟨w.heap.size + 1 + 1 + 1, 0, none⟩) 1 1] 43)
  refine ⟨b5, by omega, one_row b1 (Nat.le_refl _), ⟨fun k => ?_, fun i j b hij hb hc => ?_⟩, ((((Keeps.alloc None w _).andAlloc _).andAlloc _).andAlloc _).andAlloc _, fun t ht => ?_⟩
  · unfold RowZ hK0 hL0
    by_cases k0 : k = 0
    · subst k0; exact one_row b2 (by omega)
    · by_cases k1 : k = 1
      · subst k1; exact one_row b3 (by omega)
      · by_cases k2 : k = 2
        · subst k2; exact one_row b4 (by omega)
        · rw [if_neg k0, if_neg k1, if_neg k2, if_neg k0, if_neg k1, if_neg k2]; exact row_nil _ _ _ _
  · have hv : ∀ k, (hK0 w.heap.size k).ownBlock = some b → (k = 0 ∧ b = w.heap.size + 1) ∨ (k = 1 ∧ b = w.heap.size + 1 + 1) ∨ (k = 2 ∧ b = w.heap.size + 1 + 1 + 1) := fun k h => by
      unfold hK0 at h
      by_cases k0 : k = 0
      · subst k0; simp [Value.ownBlock] at h; exact .inl ⟨rfl, h.symm⟩
      · by_cases k1 : k = 1
        · subst k1; simp [Value.ownBlock] at h; exact .inr (.inl ⟨rfl, h.symm⟩)
        · by_cases k2 : k = 2
          · subst k2; simp [Value.ownBlock] at h; exact .inr (.inr ⟨rfl, h.symm⟩)
          · rw [if_neg k0, if_neg k1, if_neg k2] at h; simp [Value.ownBlock] at h
    have h1 := hv i hb
    have h2 := hv j hc
    omega
  · unfold hK0
    rw [if_neg (by omega), if_neg (by omega), if_neg (by omega)]
theorem hire_set {w W : World} {l : List Dd} {n : Nat} {C : Nat} {dv : Value} {K : Nat → Value} {L : Nat → List Int} {v' : Value} (h : CrM w W C (hireN l n).T dv (updF K (6 + (hireN l n).now) v') (updF L (6 + (hireN l n).now) (L (6 + (hireN l n).now) ++ [(n : Int)]))) (hp : CrP (hireN l n) (fun _ => 0) L) (t : Nat) : (updF L (6 + (hireN l n).now) (L (6 + (hireN l n).now) ++ [(n : Int)])) (6 + t) = natZ (updF (hireN l n).D (hireN l n).now ((hireN l n).D (hireN l n).now ++ [n]) t) := by
  by_cases e : t = (hireN l n).now
  · subst e
    rw [updF_eq, updF_eq, natZ_put, hp.D]
  · rw [updF_ne (by omega), updF_ne e, hp.D]
set_option maxHeartbeats 8000000 in
theorem hire_ok (a : Option Addr) (n c : Nat) (l : List Dd) (w : World) (hS : Seen w a n l) (hf : Fine l) (hn : n ≤ 4096) :
    Calls Try.prog 14 #[.slice a n c] w fun e w' => ∃ C, e = .returned (.pointer (some ⟨C, 0, none⟩)) ∧ ∃ dv K L, CrM w w' C (hireN l n).T dv K L ∧ CrP (hireN l n) (fun _ => 0) L ∧ Emp K L := by
  have HS : Hid (Seen w a n l) := hS
  have HF : Hid (Fine l ∧ n = l.length) := ⟨hf, hS.len⟩
  have HC : Hid _ := crew_new w
  clear hS hf
  go_enter Try.func14, Try.ntmps14
  go_upto_region 2 with fail
  obtain ⟨W0, hW0⟩ : ∃ W0, W0 = ((((w.alloc (.cells #[.slice none 0 0] 35)).alloc (.cells #[.int .i64 0] 3)).alloc (.cells #[.int .i64 (-1)] 3)).alloc (.cells #[.int .i64 (-1)] 3)).alloc (.cells #[.slice (some ⟨w.heap.size, 0, none⟩) 1 1, .slice (some ⟨w.heap.size + 1, 0, none⟩) 1 1, .slice (some ⟨w.heap.size + 1 + 1, 0, none⟩) 1 1, .slice (some ⟨w.heap.size + 1 + 1 + 1, 0, none⟩) 1 1] 43) := ⟨_, rfl⟩
  obtain ⟨C, hC⟩ : ∃ C, C = w.heap.size + 1 + 1 + 1 + 1 := ⟨_, rfl⟩
  rw [← hW0, ← hC] at HC
  rw [← hW0, ← hC]
  clear hW0 hC
  go_wp2_with fail
  go_loopw [4, 5] (fun s4 s5 wr => ∃ i now : Nat, i ≤ n ∧ s4 = .int .i64 now ∧ s5 = .int .i64 i ∧ Hid (now = (hireN l i).now ∧ ∃ dv K L, CrM w wr C (hireN l i).T dv K L ∧ CrP (hireN l i) (fun _ => 0) L ∧ Emp K L)) (fun _ s5 _ => n - (intOf s5).toNat)
  case atStart => exact ⟨0, 0, Nat.zero_le _, rfl, rfl, rfl, _, _, _, HC.out, ⟨rfl, rfl, rfl, fun t => by unfold hL0; rw [if_neg (by omega), if_neg (by omega), if_neg (by omega)]; rfl⟩, ⟨⟨rfl, rfl, rfl⟩, ⟨rfl, rfl, rfl⟩⟩⟩
  case round =>
    clear HC
    obtain ⟨i, now, hi, rfl, rfl, HR⟩ := hrel
    obtain ⟨hnow, dv, K, L, hM, hP, hEm⟩ := HR.out
    clear HR
    by_cases hin : i < n
    · obtain ⟨ids, hI⟩ := hire_inv HF.out.1 i (by rw [← HF.out.2]; omega)
      obtain ⟨hl1, hl2⟩ := hire_len l i
      have hnT := hI.nowlt
      rw [← hnow] at hnT
      obtain ⟨G, cap, hdv, hGl, hGc⟩ := hM.shape (by omega)
      have hT1 : (hireN l i).T ≤ 4097 := by omega
      have hLd : (L (6 + now)).length ≤ 4096 := by rw [hP.D, natZ_len]; have := hl2 now; omega
      obtain ⟨g, cp, w1, hr, hc0, hcG, hfG, HN⟩ := hM.deed hnT hdv (i : Int) (by omega)
      have c0 : wr.cell? ⟨C, 0, none⟩ = some dv := blk_cell hM.blk 0
      have cG := (hGc now hnT).1
      have c0' := (Keeps.alloc None wr (.cells #[.int .i64 (i : Int)] 3)).cell c0 (fun f => f)
      have cG' := (Keeps.alloc None wr (.cells #[.int .i64 (i : Int)] 3)).cell cG (fun f => f)
      obtain ⟨T, hT⟩ : ∃ T, T = (hireN l i).T := ⟨_, rfl⟩
      rw [hdv] at c0 c0' hc0
      rw [← hT] at c0 c0' hc0 hnT hT1
      have HP : Hid (CrP (hireN l i) (fun _ => 0) L ∧ Emp K L ∧ HInv l i (hireN l i) ids ∧ T = (hireN l i).T ∧ now = (hireN l i).now ∧ T ≤ i + 1) := ⟨hP, hEm, hI, hT, hnow, by omega⟩
      have i1 : (i : Int) < (n : Int) := by omega
      have i2 : (now : Int) < (T : Int) := by omega
      have HDv : Hid (dv = .slice (some ⟨G, 0, none⟩) T cap) := by rw [hT]; exact hdv
      clear hM hP hEm hI hl1 hl2 hGl hGc hLd hT hnow hdv
      go_upto_region 6 with fail
      go_cut [4, 5] (fun s4 s5 wx => s4 = .int .i64 now ∧ s5 = .int .i64 i ∧ Hid (∃ v', CrM w wx C (hireN l i).T dv (updF K (6 + now) v') (updF L (6 + now) (L (6 + now) ++ [(i : Int)]))))
      case first =>
        go_region_law (refine step_append_run rfl (.tmp 29) (.tmp 31) 35 35 rfl (by simp [Act.eval]) (by simp [Act.eval]) hr ?_)
        all_goals (go_wp2_with fail; go_meet)
        all_goals exact ⟨rfl, rfl, _, HN.out⟩
      case rest =>
      obtain ⟨rfl, rfl, HV⟩ := hcut
      clear c0 cG c0' cG' hc0 hcG hfG HN hr
      obtain ⟨v', hM⟩ := HV.out
      clear HV
      obtain ⟨b, off, hab, hbb, u0, u1⟩ := seen_deed (HS.out.more hM.kp) (n := i) hin
      subst hab
      obtain ⟨xk, hxk⟩ : ∃ xk, xk = kdN l i := ⟨_, rfl⟩
      rw [← hxk] at u0
      have HX : Hid (xk = kdN l i) := hxk
      have hD9 := fun t => hire_set (t := t) (by rw [← HP.out.2.2.2.2.1]; exact hM) HP.out.1
      rw [← HP.out.2.2.2.2.1] at hD9
      have hE9 : Emp (updF K (6 + now) v') (updF L (6 + now) (L (6 + now) ++ [(i : Int)])) := ⟨by rw [updF_ne (by omega), updF_ne (by omega), updF_ne (by omega)]; exact HP.out.2.1.k, by rw [updF_ne (by omega), updF_ne (by omega), updF_ne (by omega)]; exact HP.out.2.1.l⟩
      have q0 : updF L (6 + now) (L (6 + now) ++ [(i : Int)]) 0 = L 0 := updF_ne (by omega)
      have q1 : updF L (6 + now) (L (6 + now) ++ [(i : Int)]) 1 = L 1 := updF_ne (by omega)
      have q2 : updF L (6 + now) (L (6 + now) ++ [(i : Int)]) 2 = L 2 := updF_ne (by omega)
      obtain ⟨K1, hK1⟩ : ∃ K1, K1 = updF K (6 + now) v' := ⟨_, rfl⟩
      obtain ⟨L1, hL1⟩ : ∃ L1, L1 = updF L (6 + now) (L (6 + now) ++ [(i : Int)]) := ⟨_, rfl⟩
      rw [← hK1, ← hL1] at hM hE9
      rw [← hL1] at q0 q1 q2 hD9
      rw [HP.out.1.dn] at q0
      rw [HP.out.1.par] at q1
      rw [HP.out.1.bo] at q2
      have HQ : Hid (Emp K1 L1 ∧ (∀ t, L1 (6 + t) = natZ (updF (hireN l i).D (hireN l i).now ((hireN l i).D (hireN l i).now ++ [i]) t)) ∧ L1 0 = (List.range (hireN l i).T).map (fun t => (((fun _ => 0) t : Nat) : Int)) ∧ L1 1 = (List.range (hireN l i).T).map (hireN l i).par ∧ L1 2 = (List.range (hireN l i).T).map (hireN l i).bo) := ⟨hE9, by have := hD9; rw [← HP.out.2.2.2.2.1]; exact this, q0, q1, q2⟩
      have HM : Hid (CrM w wc C T dv K1 L1) := by rw [HP.out.2.2.2.1]; exact hM
      clear hK1 hL1 hM hE9 q0 q1 q2 hD9 hxk u1 hbb
      by_cases k0 : xk = 0
      · subst k0
        have e := hire0 HX.out.symm
        have HE : Hid _ := e
        clear e
        obtain ⟨G2, cap2, w2, hr2, hc2, hf2, HM2⟩ := HM.out.push (by omega)
        have c0 : wc.cell? ⟨C, 0, none⟩ = some dv := blk_cell HM.out.blk 0
        have c0' := (Keeps.alloc None wc (.cells #[.slice none 0 0] 35)).cell c0 (fun f => f)
        go_upto_region 9 with (at_builtin; refine wpList_append_run rfl (.tmp 44) (.tmp 45) 41 41 rfl rfl rfl hr2 ?_)
        obtain ⟨W2, hW2⟩ : ∃ W2, W2 = w2.setCell ⟨C, 0, none⟩ (.slice (some ⟨G2, 0, none⟩) (T + 1) cap2) := ⟨_, rfl⟩
        rw [← hW2] at HM2
        rw [← hW2]
        clear hW2 c0 c0' hc2 hf2 hr2 u0
        have hLn : (L1 0).length = T ∧ (L1 1).length = T ∧ (L1 2).length = T := by
          have := HQ.out
          rw [this.2.2.1, this.2.2.2.1, this.2.2.2.2, ← HP.out.2.2.2.1]
          simp
        have HLn : Hid ((L1 0).length = T ∧ (L1 1).length = T ∧ (L1 2).length = T) := hLn
        clear hLn
        obtain ⟨g3, c3, w3, hr3, hc3, hf3, HM3⟩ := HM2.out.field (k := 0) (by omega) 0 (by rw [HLn.out.1]; omega)
        rw [HLn.out.1] at hr3 HM3
        have hc3' : w3.cell? ⟨C, 1, none⟩ = some (K1 0) := hc3
        have hf3' : w3.frozen? ⟨C, 1, none⟩ = false := hf3
        have HM3' : Hid (CrM w (w3.setCell ⟨C, 1, none⟩ (.slice (some ⟨g3, 0, none⟩) (T + 1) c3)) C (T + 1) (.slice (some ⟨G2, 0, none⟩) (T + 1) cap2) (updF K1 0 (.slice (some ⟨g3, 0, none⟩) (T + 1) c3)) (updF L1 0 (L1 0 ++ [(0 : Int)]))) := HM3
        clear hc3 hf3 HM3
        have c1 : W2.cell? ⟨C, 1, none⟩ = some (K1 0) := blk_cell HM2.out.blk 1
        have c1' := (Keeps.alloc None W2 (.cells #[.int .i64 0] 3)).cell c1 (fun f => f)
        go_upto_region 10 with (at_builtin; refine wpList_append_run rfl (.tmp 53) (.tmp 54) 35 35 rfl rfl rfl hr3 ?_)
        obtain ⟨W3, hW3⟩ : ∃ W3, W3 = w3.setCell ⟨C, 1, none⟩ (.slice (some ⟨g3, 0, none⟩) (T + 1) c3) := ⟨_, rfl⟩
        obtain ⟨K2, hK2⟩ : ∃ K2, K2 = updF K1 0 (.slice (some ⟨g3, 0, none⟩) (T + 1) c3) := ⟨_, rfl⟩
        obtain ⟨L2, hL2⟩ : ∃ L2, L2 = updF L1 0 (L1 0 ++ [(0 : Int)]) := ⟨_, rfl⟩
        rw [← hW3, ← hK2, ← hL2] at HM3'
        rw [← hW3]
        have HM3 : Hid (CrM w W3 C (T + 1) (.slice (some ⟨G2, 0, none⟩) (T + 1) cap2) K2 L2) := HM3'
        have HL2 : Hid (L2 = updF L1 0 (L1 0 ++ [(0 : Int)]) ∧ K2 = updF K1 0 (.slice (some ⟨g3, 0, none⟩) (T + 1) c3)) := ⟨hL2, hK2⟩
        have HL2n : Hid ((L2 1).length = T ∧ (L2 2).length = T) := by rw [hL2, updF_ne (by omega), updF_ne (by omega)]; exact HLn.out.2
        clear hW3 c1 c1' hc3' hf3' hr3 HM3' HM2 hK2 hL2
        obtain ⟨g4, c4, w4, hr4, hc4, hf4, HM4⟩ := HM3.out.field (k := 1) (by omega) (now : Int) (by rw [HL2n.out.1]; omega)
        rw [HL2n.out.1] at hr4 HM4
        have hc4' : w4.cell? ⟨C, 2, none⟩ = some (K2 1) := hc4
        have hf4' : w4.frozen? ⟨C, 2, none⟩ = false := hf4
        have HM4' : Hid (CrM w (w4.setCell ⟨C, 2, none⟩ (.slice (some ⟨g4, 0, none⟩) (T + 1) c4)) C (T + 1) (.slice (some ⟨G2, 0, none⟩) (T + 1) cap2) (updF K2 1 (.slice (some ⟨g4, 0, none⟩) (T + 1) c4)) (updF L2 1 (L2 1 ++ [(now : Int)]))) := HM4
        clear hc4 hf4 HM4
        have c1 : W3.cell? ⟨C, 2, none⟩ = some (K2 1) := blk_cell HM3.out.blk 2
        have c1' := (Keeps.alloc None W3 (.cells #[.int .i64 (now : Int)] 3)).cell c1 (fun f => f)
        go_upto_region 11 with (at_builtin; refine wpList_append_run rfl (.tmp 62) (.tmp 64) 35 35 rfl rfl rfl hr4 ?_)
        obtain ⟨W4, hW4⟩ : ∃ W4, W4 = w4.setCell ⟨C, 2, none⟩ (.slice (some ⟨g4, 0, none⟩) (T + 1) c4) := ⟨_, rfl⟩
        obtain ⟨K3, hK3⟩ : ∃ K3, K3 = updF K2 1 (.slice (some ⟨g4, 0, none⟩) (T + 1) c4) := ⟨_, rfl⟩
        obtain ⟨L3, hL3⟩ : ∃ L3, L3 = updF L2 1 (L2 1 ++ [(now : Int)]) := ⟨_, rfl⟩
        rw [← hW4, ← hK3, ← hL3] at HM4'
        rw [← hW4]
        have HM4 : Hid (CrM w W4 C (T + 1) (.slice (some ⟨G2, 0, none⟩) (T + 1) cap2) K3 L3) := HM4'
        have HL3 : Hid (L3 = updF L2 1 (L2 1 ++ [(now : Int)]) ∧ K3 = updF K2 1 (.slice (some ⟨g4, 0, none⟩) (T + 1) c4)) := ⟨hL3, hK3⟩
        have HL3n : Hid ((L3 2).length = T) := by rw [hL3, updF_ne (by omega)]; exact HL2n.out.2
        clear hW4 c1 c1' hc4' hf4' hr4 HM4' HM3 hK3 hL3
        obtain ⟨g5, c5, w5, hr5, hc5, hf5, HM5⟩ := HM4.out.field (k := 2) (by omega) (i : Int) (by rw [HL3n.out]; omega)
        rw [HL3n.out] at hr5 HM5
        have hc5' : w5.cell? ⟨C, 3, none⟩ = some (K3 2) := hc5
        have hf5' : w5.frozen? ⟨C, 3, none⟩ = false := hf5
        have HM5' : Hid (CrM w (w5.setCell ⟨C, 3, none⟩ (.slice (some ⟨g5, 0, none⟩) (T + 1) c5)) C (T + 1) (.slice (some ⟨G2, 0, none⟩) (T + 1) cap2) (updF K3 2 (.slice (some ⟨g5, 0, none⟩) (T + 1) c5)) (updF L3 2 (L3 2 ++ [(i : Int)]))) := HM5
        clear hc5 hf5 HM5
        have c1 : W4.cell? ⟨C, 3, none⟩ = some (K3 2) := blk_cell HM4.out.blk 3
        have c1' := (Keeps.alloc None W4 (.cells #[.int .i64 (i : Int)] 3)).cell c1 (fun f => f)
        go_upto_region 12 with (at_builtin; refine wpList_append_run rfl (.tmp 72) (.tmp 74) 35 35 rfl rfl rfl hr5 ?_)
        obtain ⟨W5, hW5⟩ : ∃ W5, W5 = w5.setCell ⟨C, 3, none⟩ (.slice (some ⟨g5, 0, none⟩) (T + 1) c5) := ⟨_, rfl⟩
        obtain ⟨K4, hK4⟩ : ∃ K4, K4 = updF K3 2 (.slice (some ⟨g5, 0, none⟩) (T + 1) c5) := ⟨_, rfl⟩
        obtain ⟨L4, hL4⟩ : ∃ L4, L4 = updF L3 2 (L3 2 ++ [(i : Int)]) := ⟨_, rfl⟩
        rw [← hW5, ← hK4, ← hL4] at HM5'
        rw [← hW5]
        have HM5 : Hid (CrM w W5 C (T + 1) (.slice (some ⟨G2, 0, none⟩) (T + 1) cap2) K4 L4) := HM5'
        have HL4 : Hid (L4 = updF L3 2 (L3 2 ++ [(i : Int)]) ∧ K4 = updF K3 2 (.slice (some ⟨g5, 0, none⟩) (T + 1) c5)) := ⟨hL4, hK4⟩
        clear hW5 c1 c1' hc5' hf5' hr5 HM5' HM4 hK4 hL4
        have c0 : W5.cell? ⟨C, 0, none⟩ = some (.slice (some ⟨G2, 0, none⟩) (T + 1) cap2) := blk_cell HM5.out.blk 0
        obtain ⟨b2, off2, hab2, hbb2, u0, u1⟩ := seen_deed (HS.out.more HM5.out.kp) (n := i) hin
        injection hab2 with hab2
        injection hab2 with x1 x2
        subst x1 x2
        rw [← HX.out] at u0
        clear hbb2 u1 HLn HL2n HL3n
        have HZ : Hid (T = (hireN l (i + 1)).now ∧ CrM w W5 C (hireN l (i + 1)).T (.slice (some ⟨G2, 0, none⟩) (T + 1) cap2) K4 L4 ∧ CrP (hireN l (i + 1)) (fun _ => 0) L4 ∧ Emp K4 L4) := by
          have hP := HP.out
          have hQ := HQ.out
          rw [HE.out]
          refine ⟨hP.2.2.2.1, by rw [← hP.2.2.2.1]; exact HM5.out, ⟨?_, ?_, ?_, fun t => ?_⟩, ⟨?_, ?_⟩⟩
          · rw [HL4.out.1, updF_ne (by omega), HL3.out.1, updF_ne (by omega), HL2.out.1, updF_eq, hQ.2.2.1]
            show _ = (List.range ((hireN l i).T + 1)).map _
            rw [List.range_succ, List.map_append]
            rfl
          · rw [HL4.out.1, updF_ne (by omega), HL3.out.1, updF_eq, HL2.out.1, updF_ne (by omega), hQ.2.2.2.1]
            show _ = (List.range ((hireN l i).T + 1)).map (updF _ _ _)
            rw [range_map_put, ← hP.2.2.2.2.1]
          · rw [HL4.out.1, updF_eq, HL3.out.1, updF_ne (by omega), HL2.out.1, updF_ne (by omega), hQ.2.2.2.2]
            show _ = (List.range ((hireN l i).T + 1)).map (updF _ _ _)
            rw [range_map_put]
          · rw [HL4.out.1, updF_ne (by omega), HL3.out.1, updF_ne (by omega), HL2.out.1, updF_ne (by omega)]
            exact hQ.2.1 t
          · rw [HL4.out.2, updF_ne (by omega), updF_ne (by omega), updF_ne (by omega), HL3.out.2, updF_ne (by omega), updF_ne (by omega), updF_ne (by omega), HL2.out.2, updF_ne (by omega), updF_ne (by omega), updF_ne (by omega)]
            exact hQ.1.k
          · rw [HL4.out.1, updF_ne (by omega), updF_ne (by omega), updF_ne (by omega), HL3.out.1, updF_ne (by omega), updF_ne (by omega), updF_ne (by omega), HL2.out.1, updF_ne (by omega), updF_ne (by omega), updF_ne (by omega)]
            exact hQ.1.l
        clear HE HL2 HL3 HL4 HM5 HQ HM HX
        go_wp2_with fail
        go_roundw
        case rel => exact ⟨i + 1, T, by omega, by go_num, by go_num, HZ.out.1, _, _, _, HZ.out.2⟩
        case measure => simp [intOf]; omega
      · have b0 : (xk == 0) = false := by simp [k0]
        by_cases k1 : xk = 1
        · subst k1
          have e := hire1 HX.out.symm
          obtain ⟨j, hj⟩ := HP.out.2.2.1.up HF.out.1 (by rw [← HF.out.2]; exact hin) HX.out.symm
          obtain ⟨a1, cc1, hKe, hnum⟩ := HM.out.num 1
          have hget : (L1 1)[now]? = some ((hireN l i).par now) := by
            rw [HQ.out.2.2.2.1]
            exact range_map_get _ (by rw [← HP.out.2.2.2.1]; exact hnT)
          obtain ⟨g1, hga, hgc, _⟩ := hnum now _ hget
          rw [← HP.out.2.2.2.2.1] at hj
          rw [hj] at hgc
          have hln : (L1 1).length = T := by rw [HQ.out.2.2.2.1, ← HP.out.2.2.2.1]; simp
          have c2 : wc.cell? ⟨C, 2, none⟩ = some (.slice (some ⟨g1, 0, none⟩) T cc1) := by
            have := blk_cell HM.out.blk 2
            rw [this]
            show some (K1 1) = _
            rw [hKe, hga, hln]
          have HZ : Hid (j = (hireN l (i + 1)).now ∧ CrM w wc C (hireN l (i + 1)).T dv K1 L1 ∧ CrP (hireN l (i + 1)) (fun _ => 0) L1 ∧ Emp K1 L1) := by
            have hP := HP.out
            have hQ := HQ.out
            rw [e]
            refine ⟨?_, by have := HM.out; rw [hP.2.2.2.1] at this; exact this, ⟨hQ.2.2.1, hQ.2.2.2.1, hQ.2.2.2.2, hQ.2.1⟩, hQ.1⟩
            show j = ((hireN l i).par (hireN l i).now).toNat
            rw [← hP.2.2.2.2.1, hj]
            simp
          clear e hj hKe hnum hget hga hln HQ HM HX
          go_wp2_with fail
          go_roundw
          case rel => exact ⟨i + 1, j, by omega, rfl, by go_num, HZ.out.1, _, _, _, HZ.out.2⟩
          case measure => simp [intOf]; omega
        · have b1 : (xk == 1) = false := by simp [k1]
          have e := hire2 (fun h => k0 (HX.out.trans h)) (fun h => k1 (HX.out.trans h))
          have HZ : Hid (now = (hireN l (i + 1)).now ∧ CrM w wc C (hireN l (i + 1)).T dv K1 L1 ∧ CrP (hireN l (i + 1)) (fun _ => 0) L1 ∧ Emp K1 L1) := by
            have hP := HP.out
            have hQ := HQ.out
            rw [e]
            exact ⟨hP.2.2.2.2.1, by have := HM.out; rw [hP.2.2.2.1] at this; exact this, ⟨hQ.2.2.1, hQ.2.2.2.1, hQ.2.2.2.2, hQ.2.1⟩, hQ.1⟩
          clear e HQ HM HX
          go_wp2_with fail
          go_roundw
          case rel => exact ⟨i + 1, now, by omega, rfl, by go_num, HZ.out.1, _, _, _, HZ.out.2⟩
          case measure => simp [intOf]; omega
    · obtain rfl : i = n := by omega
      have i1 : ¬ (i : Int) < (i : Int) := by omega
      have HR : Hid (∃ dv K L, CrM w wr C (hireN l i).T dv K L ∧ CrP (hireN l i) (fun _ => 0) L ∧ Emp K L) := ⟨dv, K, L, hM, hP, hEm⟩
      clear hM hP hEm hnow
      go_wp2_with fail
      go_ret
      exact ⟨C, rfl, HR.out⟩
end Go.Proofs.Ytolhojagbiaamab
/-! begun, ready. -/
namespace Go.Proofs.Ytolhojagbiaamab
set_option linter.unusedVariables false
set_option maxRecDepth 20000
set_option linter.unusedSimpArgs false
open Go.RowKit Go.HeapKit

/-- The tasks, as they are read. -/
structure View (w : World) (C T G cap g0 c0 g1 c1 g2 c2 : Nat) (s : Cw) (dn : Nat → Nat) : Prop where
  b0 : w.cell? ⟨C, 0, none⟩ = some (.slice (some ⟨G, 0, none⟩) T cap)
  b1 : w.cell? ⟨C, 1, none⟩ = some (.slice (some ⟨g0, 0, none⟩) T c0)
  b2 : w.cell? ⟨C, 2, none⟩ = some (.slice (some ⟨g1, 0, none⟩) T c1)
  b3 : w.cell? ⟨C, 3, none⟩ = some (.slice (some ⟨g2, 0, none⟩) T c2)
  dn : ∀ t, t < T → w.cell? ⟨g0, t, none⟩ = some (.int .i64 (dn t : Nat))
  par : ∀ t, t < T → w.cell? ⟨g1, t, none⟩ = some (.int .i64 (s.par t))
  bo : ∀ t, t < T → w.cell? ⟨g2, t, none⟩ = some (.int .i64 (s.bo t))
  D : ∀ t, t < T → ∃ a c, w.cell? ⟨G, t, none⟩ = some (.slice a (s.D t).length c) ∧ ∀ k x, (s.D t)[k]? = some x → ∃ g, a = some ⟨g, 0, none⟩ ∧ w.cell? ⟨g, k, none⟩ = some (.int .i64 (x : Nat))
theorem View.more {w w' : World} {C T G cap g0 c0 g1 c1 g2 c2 : Nat} {s : Cw} {dn : Nat → Nat} (h : View w C T G cap g0 c0 g1 c1 g2 c2 s dn) (hk : Keeps None w w') : View w' C T G cap g0 c0 g1 c1 g2 c2 s dn :=
  ⟨hk.cell h.b0 (fun f => f), hk.cell h.b1 (fun f => f), hk.cell h.b2 (fun f => f), hk.cell h.b3 (fun f => f), fun t ht => hk.cell (h.dn t ht) (fun f => f), fun t ht => hk.cell (h.par t ht) (fun f => f), fun t ht => hk.cell (h.bo t ht) (fun f => f), fun t ht => by
    obtain ⟨a, c, h1, h2⟩ := h.D t ht
    refine ⟨a, c, hk.cell h1 (fun f => f), fun k x hx => ?_⟩
    obtain ⟨g, e1, e2⟩ := h2 k x hx
    exact ⟨g, e1, hk.cell e2 (fun f => f)⟩⟩
theorem CrM.view {w0 w : World} {C T : Nat} {dv : Value} {K : Nat → Value} {L : Nat → List Int} {s : Cw} {dn : Nat → Nat} (h : CrM w0 w C T dv K L) (hp : CrP s dn L) (hT : T = s.T) (h0 : 0 < T) : ∃ G cap g0 c0 g1 c1 g2 c2, View w C T G cap g0 c0 g1 c1 g2 c2 s dn ∧ K 0 = .slice (some ⟨g0, 0, none⟩) T c0 ∧ (∀ t, w.frozen? ⟨g0, t, none⟩ = false) := by
  obtain ⟨G, cap, hdv, _, hG⟩ := h.shape h0
  have row : ∀ (k : Nat) (f : Nat → Int), L k = (List.range T).map f → ∃ g c, K k = .slice (some ⟨g, 0, none⟩) T c ∧ (∀ t, t < T → w.cell? ⟨g, t, none⟩ = some (.int .i64 (f t))) ∧ ∀ t, w.frozen? ⟨g, t, none⟩ = false := fun k f hk => by
    obtain ⟨a, c, e, hn⟩ := h.num k
    have hl : (L k).length = T := by rw [hk]; simp
    obtain ⟨g, hga, _, _⟩ := hn 0 (f 0) (by rw [hk]; exact range_map_get f h0)
    subst hga
    rw [hl] at e
    refine ⟨g, c, e, fun t ht => ?_, fun t => ?_⟩
    · obtain ⟨g', e', hc, _⟩ := hn t (f t) (by rw [hk]; exact range_map_get f ht)
      injection e' with e'
      injection e' with e'
      subst e'
      exact hc
    · have hr := h.rz.row k
      obtain ⟨cur, hcur⟩ := own_block hr (g := g) (by rw [e]; rfl)
      exact blk_free hcur t
  obtain ⟨g0, c0, e0, r0, f0⟩ := row 0 (fun t => (dn t : Int)) (by rw [hT]; exact hp.dn)
  obtain ⟨g1, c1, e1, r1, _⟩ := row 1 s.par (by rw [hT]; exact hp.par)
  obtain ⟨g2, c2, e2, r2, _⟩ := row 2 s.bo (by rw [hT]; exact hp.bo)
  refine ⟨G, cap, g0, c0, g1, c1, g2, c2, ⟨?_, ?_, ?_, ?_, r0, r1, r2, fun t ht => ?_⟩, e0, f0⟩
  · rw [← hdv]; exact blk_cell h.blk 0
  · rw [← e0]; exact blk_cell h.blk 1
  · rw [← e1]; exact blk_cell h.blk 2
  · rw [← e2]; exact blk_cell h.blk 3
  · obtain ⟨a, c, e, hn⟩ := h.num (6 + t)
    refine ⟨a, c, ?_, fun k x hx => ?_⟩
    · have := (hG t ht).1
      rw [e, hp.D, natZ_len] at this
      exact this
    · obtain ⟨g, h1, h2, _⟩ := hn k (x : Int) (by rw [hp.D]; unfold natZ; rw [List.getElem?_map, hx]; rfl)
      exact ⟨g, h1, h2⟩
open Classical in
set_option maxHeartbeats 1600000 in
theorem begun_ok (w : World) (C T G cap g0 c0 g1 c1 g2 c2 : Nat) (s : Cw) (dn : Nat → Nat) (t b : Nat) (hV : View w C T G cap g0 c0 g1 c1 g2 c2 s dn) (ht : t < T) (hd : dn t ≤ (s.D t).length) (hl : (s.D t).length ≤ 4096) :
    Calls Try.prog 27 #[.pointer (some ⟨C, 0, none⟩), .int .i64 (t : Nat), .int .i64 (b : Nat)] w fun e w' => e = .returned (.bool (decide (b ∈ (s.D t).take (dn t)))) ∧ w' = w := by
  obtain ⟨a, c, hG, hc⟩ := hV.D t ht
  have q0 := hV.b0
  have q1 := hV.b1
  have q2 := hV.dn t ht
  have HC : Hid _ := hc
  obtain ⟨d, hde⟩ : ∃ d, d = dn t := ⟨_, rfl⟩
  obtain ⟨m, hme⟩ : ∃ m, m = (s.D t).length := ⟨_, rfl⟩
  rw [← hde] at q2 hd
  rw [← hme] at hG hd hl
  rw [← hde]
  have HE : Hid (d = dn t ∧ m = (s.D t).length) := ⟨hde, hme⟩
  have i0 : (t : Int) < (T : Int) := by omega
  clear hV hc hde hme
  go_enter Try.func27, Try.ntmps27
  go_wp2_with fail
  go_loopw [7] (fun s7 wr => ∃ k : Nat, k ≤ d ∧ s7 = .int .i64 k ∧ Hid (¬ b ∈ (s.D t).take k) ∧ wr = w) (fun s7 _ => d - (intOf s7).toNat)
  case atStart => exact ⟨0, Nat.zero_le _, rfl, by show ¬ b ∈ List.take 0 _; simp, rfl⟩
  case round =>
    obtain ⟨k, hk, rfl, HN, rfl⟩ := hrel
    by_cases hkd : k < d
    · have hx : (s.D t)[k]? = some ((s.D t)[k]'(by have := HE.out.2; omega)) := List.getElem?_eq_getElem _
      obtain ⟨x, hxe⟩ : ∃ x, x = (s.D t)[k]'(by have := HE.out.2; omega) := ⟨_, rfl⟩
      rw [← hxe] at hx
      obtain ⟨g, rfl, hgc⟩ := HC.out k x hx
      obtain ⟨X, hX⟩ : ∃ X : Int, X = (x : Int) := ⟨_, rfl⟩
      obtain ⟨B, hB⟩ : ∃ B : Int, B = (b : Int) := ⟨_, rfl⟩
      rw [← hX] at hgc
      rw [← hB]
      have HX : Hid ((s.D t)[k]? = some x ∧ X = (x : Int) ∧ B = (b : Int)) := ⟨hx, hX, hB⟩
      have i1 : (k : Int) < (d : Int) := by omega
      have i2 : (k : Int) < (m : Int) := by omega
      clear hx hxe hX hB
      by_cases e : X = B
      · have b1 : (X == B) = true := by simp [e]
        have HR : Hid (b ∈ (s.D t).take d) := in_take HX.out.1 hkd |> fun h => by
          have e1 := HX.out.2.1
          have e2 := HX.out.2.2
          have : b = x := by omega
          rw [this]; exact h
        clear e
        go_wp2_with fail
        go_ret
        exact ⟨by simp [HR.out], rfl⟩
      · have b1 : (X == B) = false := by simp [e]
        have HR : Hid (¬ b ∈ (s.D t).take (k + 1)) := by
          rw [take_one HX.out.1]
          intro h
          rcases List.mem_append.1 h with h | h
          · exact HN.out h
          · rw [List.mem_singleton] at h
            apply e
            rw [HX.out.2.1, HX.out.2.2, h]
        clear e
        go_wp2_with fail
        go_roundw
        case rel => exact ⟨k + 1, by omega, by simp, HR, by first | trivial | rfl⟩
        case measure => simp [intOf]; omega
    · obtain rfl : k = d := by omega
      have i1 : ¬ (k : Int) < (k : Int) := by omega
      go_wp2_with fail
      go_ret
      exact ⟨by simp [HN.out], rfl⟩
end Go.Proofs.Ytolhojagbiaamab
/-! ready. -/
namespace Go.Proofs.Ytolhojagbiaamab
set_option linter.unusedVariables false
set_option maxRecDepth 20000
set_option linter.unusedSimpArgs false
open Go.RowKit Go.HeapKit

theorem rdy_no {l : List Dd} {s : Cw} {dn : Nat → Nat} {t : Nat} (h : ∀ a, ¬ Rdy l s dn t a) : rdyB l s dn t = false := by
  cases hb : rdyB l s dn t with
  | false => rfl
  | true =>
    obtain ⟨a, ha⟩ := (rdyB_iff l s dn t).1 hb
    exact absurd ha (h a)
open Classical in
set_option maxHeartbeats 8000000 in
theorem ready_ok (w : World) (C T G cap g0 c0 g1 c1 g2 c2 : Nat) (s : Cw) (dn : Nat → Nat) (t : Nat) (a : Option Addr) (n c : Nat) (l : List Dd) (ids : List Nat) (hV : View w C T G cap g0 c0 g1 c1 g2 c2 s dn) (hT : T = s.T) (ht : t < T) (hd : ∀ t, dn t ≤ (s.D t).length) (hl : ∀ t, (s.D t).length ≤ 4096) (hT4 : T ≤ 4097) (hI : HInv l n s ids) (hS : Seen w a n l) :
    Calls Try.prog 15 #[.pointer (some ⟨C, 0, none⟩), .slice a n c, .int .i64 (t : Nat)] w fun e w' => e = .returned (.bool (rdyB l s dn t)) ∧ Keeps None w w' := by
  have HV : Hid (View w C T G cap g0 c0 g1 c1 g2 c2 s dn ∧ T = s.T ∧ HInv l n s ids ∧ Seen w a n l) := ⟨hV, hT, hI, hS⟩
  obtain ⟨at', ct, hGt, hct⟩ := hV.D t ht
  have q0 := hV.b0
  have q1 := hV.b1
  have q2 := hV.dn t ht
  have hdt := hd t
  have hlt := hl t
  obtain ⟨d, hde⟩ : ∃ d, d = dn t := ⟨_, rfl⟩
  obtain ⟨m, hme⟩ : ∃ m, m = (s.D t).length := ⟨_, rfl⟩
  rw [← hde] at q2 hdt
  rw [← hme] at hGt hdt hlt
  have HE : Hid (d = dn t ∧ m = (s.D t).length ∧ (∀ t, dn t ≤ (s.D t).length) ∧ (∀ t, (s.D t).length ≤ 4096)) := ⟨hde, hme, hd, hl⟩
  have HC : Hid _ := hct
  have i0 : (t : Int) < (T : Int) := by omega
  clear hV hT hI hS hct hde hme hd hl
  by_cases hdm : d ≥ m
  · have HB : Hid (rdyB l s dn t = false) := rdy_no (fun x hx => by
      have := hx.nx
      rw [List.getElem?_eq_none (by have := HE.out; omega)] at this
      cases this)
    have i1 : (d : Int) ≥ (m : Int) := by omega
    go_enter Try.func15, Try.ntmps15
    go_upto_region 1 with fail
    go_region
    all_goals go_wp2_with fail
    all_goals go_ret
    all_goals exact ⟨by rw [HB.out]; rfl, Keeps.drew None w⟩
  · have i1 : ¬ (d : Int) ≥ (m : Int) := by omega
    obtain ⟨x, hx⟩ : ∃ x, (s.D t)[d]? = some x := ⟨(s.D t)[d]'(by have := HE.out; omega), List.getElem?_eq_getElem _⟩
    obtain ⟨gt, rfl, hgt⟩ := HC.out d x hx
    have HX : Hid ((s.D t)[dn t]? = some x ∧ x < n) := ⟨by rw [← HE.out.1]; exact hx, HV.out.2.2.1.lt t x (List.mem_of_getElem? hx)⟩
    have hxn : x < n := HX.out.2
    clear hx
    go_enter Try.func15, Try.ntmps15
    go_upto_region 1 with fail
    go_cut [24] (fun s24 wx => s24 = .bool false ∧ Keeps None w wx)
    case first =>
      go_region
      all_goals (go_wp2_with fail; go_meet)
      all_goals exact ⟨rfl, Keeps.drew None w⟩
    case rest =>
    obtain ⟨rfl, hk1⟩ := hcut
    have HK1 : Hid (Keeps None w wc) := hk1
    clear hk1 q0 q1 q2 hGt hgt i1
    generalize wc = W at *
    obtain ⟨nb, hnb⟩ : ∃ nb : Bool, nb = decide (0 < t ∧ d = 0 ∧ ¬ ∃ p b : Nat, s.par t = (p : Int) ∧ s.bo t = (b : Int) ∧ b ∈ (s.D p).take (dn p)) := ⟨_, rfl⟩
    have HNb : Hid (nb = decide (0 < t ∧ d = 0 ∧ ¬ ∃ p b : Nat, s.par t = (p : Int) ∧ s.bo t = (b : Int) ∧ b ∈ (s.D p).take (dn p))) := hnb
    clear hnb
    have q1 := (HV.out.1.more HK1.out).b1
    have q2 := (HV.out.1.more HK1.out).dn t ht
    rw [← HE.out.1] at q2
    go_upto_region 3 with fail
    go_cut [55] (fun s55 wx => s55 = .bool nb ∧ Keeps None W wx)
    case first =>
      by_cases t0 : 0 < t
      · by_cases d0 : d = 0
        · have j1 : (t : Int) > 0 := by omega
          obtain ⟨p, b, e1, e2, e3, e4, e5⟩ := HV.out.2.2.1.byo t t0 (by rw [← HV.out.2.1]; exact ht)
          have V1 := HV.out.1.more HK1.out
          have q3 := V1.b2
          have q4 := V1.par t ht
          have q5 := V1.b3
          have q6 := V1.bo t ht
          rw [e1] at q4
          rw [e2] at q6
          have hpT : p < T := by omega
          have hbg := begun_ok W.drew C T G cap g0 c0 g1 c1 g2 c2 s dn p b (V1.more (Keeps.drew None W)) hpT (HE.out.2.2.1 p) (HE.out.2.2.2 p)
          have hval : (!decide (b ∈ (s.D p).take (dn p))) = nb := by
            rw [HNb.out]
            by_cases hb : b ∈ (s.D p).take (dn p)
            · rw [decide_eq_true hb, decide_eq_false]
              · rfl
              · rintro ⟨_, _, h⟩
                exact h ⟨p, b, e1, e2, hb⟩
            · rw [decide_eq_false hb, decide_eq_true]
              · rfl
              · refine ⟨t0, d0, ?_⟩
                rintro ⟨p', b', f1, f2, f3⟩
                have x1 : p' = p := by omega
                have x2 : b' = b := by omega
                subst x1 x2
                exact hb f3
          obtain ⟨bb, hbb⟩ : ∃ bb, bb = decide (b ∈ (s.D p).take (dn p)) := ⟨_, rfl⟩
          rw [← hbb] at hbg hval
          have HBg : Hid (Calls Try.prog 27 #[.pointer (some ⟨C, 0, none⟩), .int .i64 (p : Nat), .int .i64 (b : Nat)] W.drew fun e w' => e = .returned (.bool bb) ∧ Keeps None W w') := hbg.mono fun e w' h => ⟨h.1, by rw [h.2]; exact Keeps.drew None W⟩
          have HVal : Hid ((!bb) = nb) := hval
          clear hbg hval hbb e1 e2 e3 e4 e5 V1
          subst d0
          go_region_held3 (fun w' => w'.cell? ⟨C, 1, none⟩ = some (.slice (some ⟨g0, 0, none⟩) T c0) ∧ w'.cell? ⟨g0, t, none⟩ = some (.int .i64 ((0 : Nat) : Int)) ∧ w'.cell? ⟨C, 2, none⟩ = some (.slice (some ⟨g1, 0, none⟩) T c1) ∧ w'.cell? ⟨g1, t, none⟩ = some (.int .i64 (p : Nat)) ∧ w'.cell? ⟨C, 3, none⟩ = some (.slice (some ⟨g2, 0, none⟩) T c2) ∧ w'.cell? ⟨g2, t, none⟩ = some (.int .i64 (b : Nat))) (first | exact ⟨r1, r2, r3, r4, r5, r6⟩ | go_keep) (first | (go_at_call 27; refine Calls.mono HBg.out ?_; rintro _ w5 ⟨rfl, j5⟩; have r1 := j5.cell q1 (fun f => f); have r2 := j5.cell q2 (fun f => f); have r3 := j5.cell q3 (fun f => f); have r4 := j5.cell q4 (fun f => f); have r5 := j5.cell q5 (fun f => f); have r6 := j5.cell q6 (fun f => f); have HJ : Hid _ := j5; clear j5))
          all_goals (go_wp2_with fail; go_meet)
          all_goals exact ⟨by rw [← HVal.out], HJ.out⟩
        · have HVal : Hid (nb = false) := by rw [HNb.out]; exact decide_eq_false (fun h => d0 h.2.1)
          have j1 : (t : Int) > 0 := by omega
          have j1' : decide ((t : Int) > 0) = true := decide_eq_true j1
          have j2 : ((d : Int) == 0) = false := by simp; omega
          go_quiet (fail)
          all_goals (go_wp2_with fail; go_meet)
          all_goals exact ⟨by rw [HVal.out], keeps_drewN _ _⟩
      · have HVal : Hid (nb = false) := by rw [HNb.out]; exact decide_eq_false (fun h => t0 h.1)
        have j1 : ¬ (t : Int) > 0 := by omega
        have j1' : decide ((t : Int) > 0) = false := decide_eq_false j1
        go_quiet (fail)
        all_goals (go_wp2_with fail; go_meet)
        all_goals exact ⟨by rw [HVal.out], keeps_drewN _ _⟩
    case rest =>
    obtain ⟨rfl, hk2⟩ := hcut
    have HK2 : Hid (Keeps None w wc) := HK1.out.trans hk2 (fun _ f _ => f)
    clear hk2 HK1 q1 q2
    generalize wc = W2 at *
    cases nb with
    | true =>
      have HB : Hid (rdyB l s dn t = false) := rdy_no (fun y hy => by
        have h := of_decide_eq_true HNb.out.symm
        exact h.2.2 (hy.bg h.1 (by rw [← HE.out.1]; exact h.2.1)))
      go_wp2_with fail
      go_ret
      exact ⟨by rw [HB.out]; rfl, HK2.out⟩
    | false =>
      have HBg : Hid (0 < t → dn t = 0 → ∃ p b : Nat, s.par t = (p : Int) ∧ s.bo t = (b : Int) ∧ b ∈ (s.D p).take (dn p)) := fun h1 h2 => by
        have h := of_decide_eq_false HNb.out.symm
        apply Classical.not_not.1
        intro h3
        exact h ⟨h1, by rw [HE.out.1]; exact h2, h3⟩
      clear HNb
      have V2 := HV.out.1.more HK2.out
      have q0 := V2.b0
      have q1 := V2.b1
      have q2 := V2.dn t ht
      obtain ⟨at2, ct2, hGt, hct2⟩ := V2.D t ht
      obtain ⟨gt2, rfl, hgt⟩ := hct2 (dn t) x HX.out.1
      rw [← HE.out.1] at q2 hgt
      rw [← HE.out.2.1] at hGt
      have i1 : (d : Int) < (m : Int) := by omega
      have HBk : Hid (∀ k b, kdN l x = k → (k = 1 ∨ k = 2 → ∀ c, 0 < c → c < s.T → s.par c = (t : Int) → s.bo c < (x : Int) → (s.D c).length ≤ dn c) → b = true → rdyB l s dn t = b) := fun k b h1 h2 h3 => by
        rw [h3]
        exact (rdyB_iff l s dn t).2 ⟨x, HX.out.1, HBg.out, by rw [h1]; exact h2⟩
      clear V2 hct2
      go_upto_region 5 with fail
      go_cut [7] (fun s7 wx => s7 = .int .i64 (x : Nat) ∧ Keeps None W2 wx)
      case first =>
        go_quiet (fail)
        all_goals (go_wp2_with fail; go_meet)
        all_goals exact ⟨rfl, keeps_drewN _ _⟩
      case rest =>
      obtain ⟨rfl, hk3⟩ := hcut
      have HK3 : Hid (Keeps None w wc) := HK2.out.trans hk3 (fun _ f _ => f)
      clear hk3 HK2 q0 q1 q2 hGt hgt i1
      generalize wc = W3 at *
      obtain ⟨bb, off, hab, hbb, u0, u1⟩ := seen_deed (HV.out.2.2.2.more HK3.out) (n := x) hxn
      subst hab
      obtain ⟨xk, hxk⟩ : ∃ xk, xk = kdN l x := ⟨_, rfl⟩
      rw [← hxk] at u0
      have HKd : Hid (kdN l x = xk) := hxk.symm
      have i2 : (x : Int) < (n : Int) := by omega
      clear hxk hbb u1
      obtain ⟨kb, hkb⟩ : ∃ kb : Bool, kb = decide (¬ (xk = 1 ∨ xk = 2)) := ⟨_, rfl⟩
      have HKb : Hid (kb = decide (¬ (xk = 1 ∨ xk = 2))) := hkb
      clear hkb
      go_upto_region 6 with fail
      go_cut [85] (fun s85 wx => s85 = .bool kb ∧ wx = W3)
      case first =>
        by_cases e2 : xk = 2
        · have HB2 : Hid (kb = false) := by rw [HKb.out]; exact decide_eq_false (fun h => h (.inr e2))
          subst e2
          clear HKb
          go_wp2_with fail
          go_meet
          exact ⟨by rw [HB2.out], rfl⟩
        · by_cases e1 : xk = 1
          · have HB2 : Hid (kb = false) := by rw [HKb.out]; exact decide_eq_false (fun h => h (.inl e1))
            subst e1
            clear HKb e2
            go_wp2_with fail
            go_meet
            exact ⟨by rw [HB2.out], rfl⟩
          · have HB2 : Hid (kb = true) := by rw [HKb.out]; exact decide_eq_true (fun h => h.elim e1 e2)
            have b1 : (xk != 2) = true := by simp [e2]
            have b2 : (xk != 1) = true := by simp [e1]
            clear HKb e1 e2
            go_wp2_with fail
            go_meet
            exact ⟨by rw [HB2.out], rfl⟩
      case rest =>
      obtain ⟨rfl, hw3⟩ := hcut
      have h2 := hw3.symm
      subst h2
      clear hw3 u0 i2
      generalize wc = W3 at *
      cases kb with
      | true =>
        have HB : Hid (rdyB l s dn t = true) := HBk.out xk true HKd.out (fun h => absurd h (of_decide_eq_true HKb.out.symm)) rfl
        go_wp2_with fail
        go_ret
        exact ⟨by rw [HB.out]; rfl, HK3.out⟩
      | false =>
        have HK12 : Hid (kdN l x = 1 ∨ kdN l x = 2) := by
          have h : ¬ ¬ (xk = 1 ∨ xk = 2) := of_decide_eq_false HKb.out.symm
          have h' : xk = 1 ∨ xk = 2 := by omega
          rw [← HKd.out] at h'
          exact h'
        clear HKb
        go_wp2_with fail
        go_loopw [8] (fun s8 wr => ∃ k : Nat, 1 ≤ k ∧ k ≤ T ∧ s8 = .int .i64 k ∧ Hid (∀ c, 0 < c → c < k → s.par c = (t : Int) → s.bo c < (x : Int) → (s.D c).length ≤ dn c) ∧ Hid (Keeps None w wr)) (fun s8 _ => T - (intOf s8).toNat)
        case atStart => exact ⟨1, by omega, by omega, rfl, fun c h1 h2 => by omega, HK3.out⟩
        case round =>
          obtain ⟨k, hk1, hk, rfl, HA, HKr⟩ := hrel
          clear HK3
          generalize wr = X at *
          have V := HV.out.1.more HKr.out
          have q0 := V.b0
          by_cases hkT : k < T
          · obtain ⟨ak, ck, hGk, _⟩ := V.D k hkT
            have q1 := V.b1
            have q2 := V.b2
            have q3 := V.b3
            have q4 := V.par k hkT
            have q5 := V.bo k hkT
            have q6 := V.dn k hkT
            obtain ⟨P, hP⟩ : ∃ P, P = s.par k := ⟨_, rfl⟩
            obtain ⟨Q, hQ⟩ : ∃ Q, Q = s.bo k := ⟨_, rfl⟩
            obtain ⟨dk, hdk⟩ : ∃ dk, dk = dn k := ⟨_, rfl⟩
            obtain ⟨lk, hlk⟩ : ∃ lk, lk = (s.D k).length := ⟨_, rfl⟩
            rw [← hP] at q4
            rw [← hQ] at q5
            rw [← hdk] at q6
            rw [← hlk] at hGk
            have hdl : dk ≤ 4096 ∧ lk ≤ 4096 := by have h1 := HE.out.2.2.1 k; have h2 := HE.out.2.2.2 k; omega
            have HS2 : Hid (P = s.par k ∧ Q = s.bo k ∧ dk = dn k ∧ lk = (s.D k).length) := ⟨hP, hQ, hdk, hlk⟩
            have i1 : (k : Int) < (T : Int) := by omega
            clear V hP hQ hdk hlk
            obtain ⟨rb, hrb⟩ : ∃ rb : Bool, rb = decide (P = (t : Int) ∧ Q < (x : Int) ∧ dk < lk) := ⟨_, rfl⟩
            have HRb : Hid (rb = decide (P = (t : Int) ∧ Q < (x : Int) ∧ dk < lk)) := hrb
            clear hrb
            go_upto_region 11 with fail
            go_cut [132] (fun s132 wx => s132 = .bool rb ∧ Keeps None X wx)
            case first =>
              by_cases e1 : P = (t : Int)
              · by_cases e2 : Q < (x : Int)
                · by_cases e3 : dk < lk
                  · have HB2 : Hid (rb = true) := by rw [HRb.out]; exact decide_eq_true ⟨e1, e2, e3⟩
                    have b1 : (P == (t : Int)) = true := by simp [e1]
                    have b3 : (dk : Int) < (lk : Int) := by omega
                    have b2' : decide (Q < (x : Int)) = true := decide_eq_true e2
                    clear HRb e1 e3
                    go_quiet (fail)
                    all_goals (go_wp2_with fail; go_meet)
                    all_goals exact ⟨by rw [HB2.out], keeps_drewN _ _⟩
                  · have HB2 : Hid (rb = false) := by rw [HRb.out]; exact decide_eq_false (fun h => e3 h.2.2)
                    have b1 : (P == (t : Int)) = true := by simp [e1]
                    have b3 : ¬ (dk : Int) < (lk : Int) := by omega
                    have b2' : decide (Q < (x : Int)) = true := decide_eq_true e2
                    clear HRb e1 e3
                    go_quiet (fail)
                    all_goals (go_wp2_with fail; go_meet)
                    all_goals exact ⟨by rw [HB2.out], keeps_drewN _ _⟩
                · have HB2 : Hid (rb = false) := by rw [HRb.out]; exact decide_eq_false (fun h => e2 h.2.1)
                  have b1 : (P == (t : Int)) = true := by simp [e1]
                  have b2' : decide (Q < (x : Int)) = false := decide_eq_false e2
                  clear HRb e1
                  go_quiet (fail)
                  all_goals (go_wp2_with fail; go_meet)
                  all_goals exact ⟨by rw [HB2.out], keeps_drewN _ _⟩
              · have HB2 : Hid (rb = false) := by rw [HRb.out]; exact decide_eq_false (fun h => e1 h.1)
                have b1 : (P == (t : Int)) = false := by simp [e1]
                clear HRb
                go_quiet (fail)
                all_goals (go_wp2_with fail; go_meet)
                all_goals exact ⟨by rw [HB2.out], keeps_drewN _ _⟩
            case rest =>
            obtain ⟨rfl, hk9⟩ := hcut
            have HK9 : Hid (Keeps None w wc) := HKr.out.trans hk9 (fun _ f _ => f)
            clear hk9 q0 q1 q2 q3 q4 q5 q6 hGk
            cases rb with
            | true =>
              have HB : Hid (rdyB l s dn t = false) := rdy_no (fun y hy => by
                have h := of_decide_eq_true HRb.out.symm
                have hyx : y = x := by have h1 := hy.nx; rw [HX.out.1] at h1; injection h1 with h1; exact h1.symm
                subst hyx
                have := hy.ch HK12.out k (by omega) (by rw [← HV.out.2.1]; exact hkT) (by rw [← HS2.out.1]; exact h.1) (by rw [← HS2.out.2.1]; exact h.2.1)
                have h2 := HS2.out
                omega)
              go_wp2_with fail
              go_ret
              exact ⟨by rw [HB.out]; rfl, HK9.out⟩
            | false =>
              have HN : Hid (∀ c, 0 < c → c < k + 1 → s.par c = (t : Int) → s.bo c < (x : Int) → (s.D c).length ≤ dn c) := fun c h1 h2 h3 h4 => by
                by_cases e : c = k
                · subst e
                  have h := of_decide_eq_false HRb.out.symm
                  have h5 := HS2.out
                  rcases Nat.lt_or_ge dk lk with e9 | e9
                  · exact absurd ⟨h5.1.trans h3, by rw [h5.2.1]; exact h4, e9⟩ h
                  · omega
                · exact HA.out c h1 (by omega) h3 h4
              go_wp2_with fail
              go_roundw
              case rel => exact ⟨k + 1, by omega, by omega, by simp, HN, HK9⟩
              case measure => simp [intOf]; omega
          · obtain rfl : k = T := by omega
            have i1 : ¬ (k : Int) < (k : Int) := by omega
            have HB : Hid (rdyB l s dn t = true) := HBk.out _ true rfl (fun _ c h1 h2 h3 h4 => HA.out c h1 (by rw [HV.out.2.1]; exact h2) h3 h4) rfl
            clear V
            go_wp2_with fail
            go_ret
            exact ⟨by rw [HB.out]; rfl, HKr.out⟩
end Go.Proofs.Ytolhojagbiaamab
