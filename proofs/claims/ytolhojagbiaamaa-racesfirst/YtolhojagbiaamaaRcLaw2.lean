import Derived.Test.YtolhojagbiaamaaRcLaw
/-! What the laws of deeds hand in, further. -/
namespace Go.Proofs.Ytolhojagbiaamaa
set_option linter.unusedVariables false
set_option maxRecDepth 20000
set_option linter.unusedSimpArgs false
open Go.RowKit Go.HeapKit

theorem keeps_drewN (w : World) (m : Nat) : Keeps None w (w.drewN m) := ⟨rfl, rfl, rfl, Nat.le_refl _, fun _ _ _ => rfl⟩
theorem same_ok (aa ab : Option Addr) (n ca cb : Nat) (l : List Dd) (w : World) (ha : Seen w aa n l) (hb : Seen w ab n l) (hz : n * 16 ≤ 140737488355328) :
    Calls Try.prog 31 #[.slice aa n ca, .slice ab n cb] w fun e w' => e = .returned (.bool true) ∧ ∃ m, w' = w.drewN m := by
  have HH : Hid (Seen w aa n l ∧ Seen w ab n l) := ⟨ha, hb⟩
  clear ha hb
  go_enter Try.func31, Try.ntmps31
  go_wp2_with fail
  go_loopw [5] (fun i wr => ∃ k : Nat, k ≤ n ∧ i = .int .i64 k ∧ ∃ m, wr = w.drewN m) (fun i _ => n - (intOf i).toNat)
  case atStart => exact ⟨0, Nat.zero_le _, rfl, 0, rfl⟩
  case round =>
    obtain ⟨k, hk, rfl, m, rfl⟩ := hrel
    by_cases hkn : k < n
    · obtain ⟨ga, oa, rfl, -, hca⟩ := HH.out.1.ex (by omega)
      obtain ⟨gb, ob, rfl, -, hcb⟩ := HH.out.2.ex (by omega)
      obtain ⟨x, hx⟩ : ∃ x, l[k]? = some x := ⟨l[k]'(by have := HH.out.1.len; omega), by simp⟩
      obtain ⟨y0, y1⟩ := hca k x hx
      obtain ⟨z0, z1⟩ := hcb k x hx
      have i1 : (k : Int) < (n : Int) := by omega
      clear hx hca hcb HH
      obtain ⟨x0, x1⟩ := x
      go_wp2
      go_quiet (fail)
      go_wp2
      go_roundw
      case rel => exact ⟨k + 1, by omega, by go_num, _, rfl⟩
      case measure => simp [intOf]; omega
    · clear HH
      go_wp2
      go_ret
      exact ⟨rfl, _, rfl⟩

theorem Spare.seen {w : World} {base g n : Nat} {l : List Dd} (h : Spare w base g n l) : Seen w (some ⟨g, 0, none⟩) n l := by
  have := h.2.seen (m := n) (by omega)
  rwa [List.take_append_of_le_length (by have := h.1; omega), List.take_of_length_le (by have := h.1; omega)] at this
theorem Spare.kept {S : Nat → Prop} {w w' : World} {base g n : Nat} {l : List Dd} (h : Spare w base g n l) (hk : Keeps S w w') (hS : ¬ S g) : Spare w' base g n l := ⟨h.1, h.2.kept hk hS⟩
theorem Spare.more {w w' : World} {base g n : Nat} {l : List Dd} (h : Spare w base g n l) (hk : Keeps None w w') : Spare w' base g n l := h.kept hk (fun f => f)
theorem Spare.put {w : World} {base g n : Nat} {l : List Dd} (h : Spare w base g n l) {k : Nat} (hk : k < n) (x : Dd) : Spare (set2 w g (k * 2) x) base g n (l.set k x) := by
  refine ⟨by simpa using h.1, ?_⟩
  have := h.2.put (k := k) (by omega) x
  rwa [List.set_append_left _ _ (by have := h.1; omega)] at this
theorem Spare.elem {w : World} {base g n : Nat} {l : List Dd} (h : Spare w base g n l) {k : Nat} (hk : k < n) : ∃ y, C2 w g (k * 2) y := by
  obtain ⟨y, hy⟩ : ∃ y, (l ++ [odd1, odd2])[k]? = some y := ⟨_, List.getElem?_eq_getElem (by simp; have := h.1; omega)⟩
  exact ⟨y, h.2.elem hy⟩

set_option maxHeartbeats 1600000 in
theorem untouched_ok (a : Option Addr) (g n c base : Nat) (l : List Dd) (w : World) (hG : Spare w base g n l) (hS : Seen w a n l) (hz : (n + 2) * 16 ≤ 140737488355328) :
    Calls Try.prog 12 #[.slice (some ⟨g, 0, none⟩) (n + 2) (n + 2), .slice a n c] w fun e w' => e = .returned (.bool true) ∧ ∃ m, w' = w.drewN m := by
  have HG : Hid (Spare w base g n l) := hG
  have HS : Hid (Seen w a n l) := hS
  have hlen := hG.1
  obtain ⟨v0, v1⟩ := hG.2.elem (k := n) (x := odd1) (by rw [List.getElem?_append_right (by omega)]; simp [← hlen])
  obtain ⟨v2, v3⟩ := hG.2.elem (k := n + 1) (x := odd2) (by rw [List.getElem?_append_right (by omega)]; simp [← hlen])
  unfold odd1 at v0 v1
  unfold odd2 at v2 v3
  have hw1 : wrap64 ((n : Int) + 1) = ((n + 1 : Nat) : Int) := wrap_small (by omega) (by omega)
  clear hG hS hlen
  have v0' : ∀ m, (w.drewN m).cell? ⟨g, n * 2, none⟩ = some (.int .i64 77) := fun _ => v0
  have v1' : ∀ m, (w.drewN m).cell? ⟨g, n * 2 + 1, none⟩ = some (.int .i64 5) := fun _ => v1
  have v2' : ∀ m, (w.drewN m).cell? ⟨g, (n + 1) * 2, none⟩ = some (.int .i64 78) := fun _ => v2
  have v3' : ∀ m, (w.drewN m).cell? ⟨g, (n + 1) * 2 + 1, none⟩ = some (.int .i64 6) := fun _ => v3
  go_enter Try.func12, Try.ntmps12
  go_wp2_with fail
  refine (same_ok _ a n _ c l w HG.out.seen HS.out (by omega)).mono ?_
  rintro e w' ⟨rfl, m, rfl⟩
  have z0 := v0' m
  have z1 := v1' m
  have z2 := v2' m
  have z3 := v3' m
  go_wp2
  go_ret
  exact ⟨rfl, _, rfl⟩

def turnD (x : Dd) : Dd := if x.k = 3 then ⟨4, wrap64 (x.loc + 1)⟩ else if x.k = 4 then ⟨3, wrap64 (x.loc + 1)⟩ else if x.k = 2 then ⟨3, x.loc⟩ else x
set_option maxHeartbeats 3200000 in
theorem turned_ok (a : Option Addr) (n c : Nat) (l : List Dd) (w : World) (hS : Seen w a n l) (hn : (n + 2) * 16 ≤ 140737488355328) :
    Calls Try.prog 32 #[.slice a n c] w fun e w' => ∃ v, e = .returned v ∧ w'.ownsRow w.heap.size 51 2 v n (ddVals (l.map turnD)) ∧ Keeps None w w' := by
  have HS : Hid (Seen w a n l) := hS
  clear hS
  go_enter Try.func32, Try.ntmps32
  go_wp2_with fail
  go_loopw [3, 4, 5] (fun s i _ wr => ∃ k : Nat, k ≤ n ∧ i = .int .i64 k ∧ wr.ownsRow w.heap.size 51 2 s k (ddVals ((l.take k).map turnD)) ∧ Keeps None w wr) (fun _ i _ _ => n - (intOf i).toNat)
  case atStart => exact ⟨0, Nat.zero_le _, rfl, by simpa [ddVals] using row_nil w _ _ _, Keeps.refl _ _⟩
  case round =>
    obtain ⟨k, hk, rfl, hrow, hkp⟩ := hrel
    obtain ⟨sa, cs, rfl⟩ := row_shape hrow
    have hlen := HS.out.len
    by_cases hkn : k < n
    · obtain ⟨b, off, x, rfl, hb, hx, u0, u1⟩ := (HS.out.more hkp).elem hkn
      have i2 : (k : Int) < (n : Int) := by omega
      have hfin : ∀ k' lo' : Int, turnD x = ⟨k', lo'⟩ → ∃ g cp w2, (Builtin.append_ #[22, 22] 22 #[.slice sa k cs, .slice (some ⟨wr.heap.size + 1, 0, none⟩) 1 1]).run Try.prog ((wr.alloc (.cells #[.int .i64 k', .int .i64 lo'] 51)).alloc (.cells #[.int .i64 k', .int .i64 lo'] 51)) = .ok (.slice (some ⟨g, 0, none⟩) (k + 1) cp) w2 ∧ Hid (w2.ownsRow w.heap.size 51 2 (.slice (some ⟨g, 0, none⟩) (k + 1) cp) (k + 1) (ddVals ((l.take (k + 1)).map turnD)) ∧ Keeps None w w2) := by
        intro k' lo' ht
        have hbn : ((wr.alloc (.cells #[.int .i64 k', .int .i64 lo'] 51)).alloc (.cells #[.int .i64 k', .int .i64 lo'] 51)).heap[wr.heap.size + 1]? = some (.cells #[.int .i64 k', .int .i64 lo'] 51 (0, 0)) := blk_new _ _ _ (by simp)
        obtain ⟨g, cp, w2, hr, ho, hk3, hm⟩ := deed_more w.heap.size (.slice sa k cs) ((l.take k).map turnD) ⟨k', lo'⟩ k 22 _ (by simp; omega) ((hrow.alloc _).alloc _) (by have := hkp.size; simp; omega) (by omega) hbn
        refine ⟨g, cp, w2, hr, ?_, ?_⟩
        · rw [take_more hx, List.map_append, List.map_singleton, ht]
          exact ho
        · exact ((hkp.andAlloc _).andAlloc _).trans hk3 (fun i e hi => by have := row_low hrow e; omega)
      have HF : Hid _ := hfin
      clear hfin hrow hkp hx hlen
      obtain ⟨xk, xl⟩ := x
      by_cases e3 : xk = 3
      · subst e3
        obtain ⟨g, cp, w2, hr, HN⟩ := HF.out 4 (wrap64 (xl + 1)) rfl
        clear HF
        go_wp2_with (at_builtin; refine wpList_append_run rfl (.tmp 35) (.tmp 37) 22 22 rfl rfl rfl hr ?_)
        exact ⟨⟨k + 1, by omega, by go_num, HN.out⟩, by simp [intOf]; omega⟩
      · by_cases e4 : xk = 4
        · subst e4
          obtain ⟨g, cp, w2, hr, HN⟩ := HF.out 3 (wrap64 (xl + 1)) rfl
          clear HF
          go_wp2_with (at_builtin; refine wpList_append_run rfl (.tmp 35) (.tmp 37) 22 22 rfl rfl rfl hr ?_)
          exact ⟨⟨k + 1, by omega, by go_num, HN.out⟩, by simp [intOf]; omega⟩
        · by_cases e2 : xk = 2
          · subst e2
            obtain ⟨g, cp, w2, hr, HN⟩ := HF.out 3 xl rfl
            clear HF
            go_wp2_with (at_builtin; refine wpList_append_run rfl (.tmp 35) (.tmp 37) 22 22 rfl rfl rfl hr ?_)
            exact ⟨⟨k + 1, by omega, by go_num, HN.out⟩, by simp [intOf]; omega⟩
          · obtain ⟨g, cp, w2, hr, HN⟩ := HF.out xk xl (by simp [turnD, e2, e3, e4])
            clear HF
            go_wp2_with (at_builtin; refine wpList_append_run rfl (.tmp 35) (.tmp 37) 22 22 rfl rfl rfl hr ?_)
            exact ⟨⟨k + 1, by omega, by go_num, HN.out⟩, by simp [intOf]; omega⟩
    · have hkn2 : k = n := by omega
      subst hkn2
      have HN : Hid (wr.ownsRow w.heap.size 51 2 (.slice sa k cs) k (ddVals (l.map turnD)) ∧ Keeps None w wr) := by
        rw [List.take_of_length_le (by omega)] at hrow
        exact ⟨hrow, hkp⟩
      clear hrow hkp hlen
      go_wp2
      go_ret
      exact ⟨_, rfl, HN.out⟩

set_option maxHeartbeats 1600000 in
theorem lay_ok (a : Option Addr) (n c g base cap : Nat) (l l2 : List Dd) (w : World) (hG : Spare w base g n l2) (hS : Seen w a n l) (hne : 0 < n → ∀ b, blockOf a = some b → b ≠ g) (hcap : n ≤ cap) (hn : (n + 2) * 16 ≤ 140737488355328) :
    Calls Try.prog 33 #[.slice (some ⟨g, 0, none⟩) n cap, .slice a n c] w fun e w' => e = .returned (.tuple #[]) ∧ Spare w' base g n l ∧ Keeps (· = g) w w' := by
  have HH : Hid (Seen w a n l) := hS
  have HR : Hid (Spare w base g n l2) := hG
  have HE : Hid (0 < n → ∀ b, blockOf a = some b → b ≠ g) := hne
  clear hS hG hne
  go_enter Try.func33, Try.ntmps33
  go_wp2_with fail
  go_loopw [4] (fun i wr => ∃ k : Nat, k ≤ n ∧ i = .int .i64 k ∧ Spare wr base g n (l.take k ++ l2.drop k) ∧ Keeps (· = g) w wr) (fun i _ => n - (intOf i).toNat)
  case atStart => exact ⟨0, Nat.zero_le _, rfl, by simpa using HR.out, Keeps.refl _ _⟩
  case round =>
    obtain ⟨k, hk, rfl, hroom, hkp⟩ := hrel
    have h1 := HH.out.len
    have h2 := HR.out.1
    by_cases hkn : k < n
    · have hS := HH.out.kept hkp (fun h0 b e _ e2 => HE.out h0 b e e2)
      obtain ⟨b, off, x, rfl, hb, hx, u0, u1⟩ := hS.elem hkn
      obtain ⟨y, z0, z1⟩ := hroom.elem hkn
      have f0 := hroom.2.free (k * 2)
      have f1 := hroom.2.free (k * 2 + 1)
      have i1 : (k : Int) < (n : Int) := by omega
      have HN : Hid (Spare (set2 wr g (k * 2) x) base g n (l.take (k + 1) ++ l2.drop (k + 1)) ∧ Keeps (· = g) w (set2 wr g (k * 2) x)) := by
        have := hroom.put hkn x
        rw [take_setD hx (by omega)] at this
        exact ⟨this, hkp.trans (keeps_set2 wr g (k * 2) x) (fun _ e _ => e)⟩
      clear hS hx hroom hkp HE HR h1 h2
      go_wp2
      go_roundw
      case rel => exact ⟨k + 1, by omega, by go_num, HN.out⟩
      case measure => simp [intOf]; omega
    · have hkn2 : k = n := by omega
      subst hkn2
      have HN : Hid (Spare wr base g k l ∧ Keeps (· = g) w wr) := by
        rw [List.take_of_length_le (by omega), List.drop_eq_nil_of_le (by omega), List.append_nil] at hroom
        exact ⟨hroom, hkp⟩
      clear hroom hkp HE HR
      go_wp2
      go_end0
      exact ⟨rfl, HN.out⟩
end Go.Proofs.Ytolhojagbiaamaa
