import Derived.Test.YtlligclkoecknaaFrPlay
/-! The laws' own functions: tidy, cut, length. -/
namespace Go.Proofs.Ytlligclkoecknaa
open Go.RowKit Go.HeapKit Go.IntWalk

def tidyL (zs : List Int) : List Nat := (zs.take 64).map (fun z => (z % 9).toNat)
theorem tidyL_rounds (zs : List Int) : Rounds (tidyL zs) := by
  refine ⟨by simp [tidyL]; omega, fun r => ?_⟩
  simp only [tidyL, List.getD_eq_getElem?_getD, List.getElem?_map]
  cases (zs.take 64)[r]? with
  | none => simp
  | some z => simp; omega
theorem own_ints {w : World} {v : Value} {n : Nat} {zs : List Int} (h : w.ownsRow 0 3 1 v n (zs.map (Value.int .i64))) : ∃ ao c, v = .slice ao n c ∧ Ints w ao zs ∧ n = zs.length := by
  have hl : n = zs.length := by have := h.1; simp at this; omega
  rcases h.2 with ⟨rfl, rfl⟩ | ⟨g, cap, cur, rfl, _, hg, hn, _, hcs, ht⟩
  · exact ⟨none, 0, rfl, fun hp => by omega, hl⟩
  · refine ⟨_, _, rfl, fun _ => ⟨g, 0, rfl, (Array.getElem?_eq_some_iff.1 hg).1, fun i hi => ?_⟩, hl⟩
    have hu := h.cells (g := g) rfl i (.int .i64 (zs.getD i 0)) (by simp [List.getD_eq_getElem?_getD, hi])
    rw [add0] at hu
    rw [Nat.zero_add]
    exact hu
theorem Ints.keptS {w w' : World} {S : Nat → Prop} {ao : Option Addr} {zs : List Int} (h : Ints w ao zs) (hk : Keeps S w w') (hS : ∀ k, k < w.heap.size → ¬ S k) : Ints w' ao zs := by
  intro hp
  obtain ⟨b, off, h1, h2, h3⟩ := h hp
  exact ⟨b, off, h1, Nat.lt_of_lt_of_le h2 hk.size, fun i hi => hk.cell (h3 i hi) (hS b h2)⟩
set_option maxHeartbeats 2000000 in
theorem tidy_any (ao : Option Addr) (c : Nat) (zs : List Int) (w : World) (hz : Ints w ao zs) :
    Calls Try.prog 16 #[.slice ao zs.length c] w fun e w' => ∃ v, e = .returned v ∧ w'.ownsRow 0 3 1 v (tidyL zs).length ((tidyL zs).map (fun n : Nat => Value.int .i64 (n : Int))) ∧ Keeps None w w' := by
  have HZ : Hid _ := hz
  clear hz
  go_enter Try.func16, Try.ntmps16
  go_wp2_with fail
  go_loopw [3, 4] (fun s3 s4 wr => ∃ k x y : Nat, ∃ o : Option Addr, k ≤ zs.length ∧ k ≤ 64 ∧ s3 = .slice o x y ∧ s4 = .int .i64 k ∧ Keeps None w wr ∧ wr.ownsRow 0 3 1 (.slice o x y) k ((tidyL (zs.take k)).map (fun n : Nat => Value.int .i64 (n : Int))) ∧ ∀ j, (Value.slice o x y).ownBlock = some j → w.heap.size ≤ j) (fun _ s4 _ => zs.length - (intOf s4).toNat)
  case atStart => exact ⟨0, 0, 0, none, Nat.zero_le _, by omega, rfl, rfl, Keeps.refl _ _, World.ownsRow_nil _ _ _ _, fun j e => by simp [Value.ownBlock] at e⟩
  case round =>
    obtain ⟨k, x, y, o, hk, hk64, rfl, rfl, hkw, how, hlo⟩ := hrel
    by_cases hgo : k < zs.length ∧ k < 64
    · obtain ⟨bb, off, hao, -, hcz⟩ := HZ.out (by omega)
      subst hao
      have cz := hkw.cell (hcz k hgo.1) (fun f => f)
      generalize hzz : zs.getD k 0 = z at cz
      have hm := mod8_any z 9 (by omega) (by omega)
      obtain ⟨u, hu⟩ : ∃ u : Nat, (u : Int) = z % (9 : Nat) := ⟨(z % (9 : Nat)).toNat, by omega⟩
      rw [← hu] at hm
      obtain ⟨gn, cn, w1, hr, ho, hgr, hmv⟩ := one_append Try.underlying45 Try.infoInt8 rfl (by decide) (.slice o x y) (.int .i64 u) k _ wr.heap.size 45 _ ((Keeps.alloc None wr (.cells #[.int .i64 u] 3)).own how (fun _ _ f => f)) (by omega) rfl (new_at wr _ _ rfl)
      have ht : (tidyL (zs.take (k + 1))).map (fun n : Nat => Value.int .i64 (n : Int)) = (tidyL (zs.take k)).map (fun n : Nat => Value.int .i64 (n : Int)) ++ [.int .i64 u] := by
        have e1 : zs.take (k + 1) = zs.take k ++ [z] := by
          rw [List.take_succ_eq_append_getElem hgo.1, ← hzz, List.getD_eq_getElem?_getD, List.getElem?_eq_getElem hgo.1]
          rfl
        have e2 : (zs.take k).length = k := by simp; omega
        have e3 : ((z % 9).toNat : Int) = u := by omega
        rw [e1]
        simp only [tidyL, List.take_append, e2]
        rw [List.take_of_length_le (show [z].length ≤ 64 - k by simp; omega)]
        simp [e3]
      rw [← ht] at ho
      have hs := hkw.size
      have HE : Hid (Keeps None w w1 ∧ w1.ownsRow 0 3 1 (.slice (some ⟨gn, 0, none⟩) (k + 1) cn) (k + 1) ((tidyL (zs.take (k + 1))).map (fun n : Nat => Value.int .i64 (n : Int))) ∧ ∀ j, (Value.slice (some ⟨gn, 0, none⟩) (k + 1) cn).ownBlock = some j → w.heap.size ≤ j) := by
        refine ⟨(hkw.andAlloc _).andGrown hgr (fun j e => .inr (hlo j e)), ho, fun j e => ?_⟩
        rcases moved_off hmv e with e | e
        · exact hlo j e
        · simp at e; omega
      have j1 : (k : Int) < (zs.length : Int) := by omega
      have j2 : (k : Int) < 64 := by omega
      clear hkw how hlo ho hgr hmv ht hu hzz hcz
      go_wp2_with fail
      refine (hm _).mono ?_
      rintro e w8 ⟨rfl, hw8⟩
      have hv8 := hw8.symm
      subst hv8
      clear hw8 hm
      go_wp2_with (at_builtin; refine wpList_append_run rfl (.tmp 15) (.tmp 21) 45 45 rfl rfl rfl hr ?_)
      go_roundw
      case rel => exact ⟨k + 1, k + 1, cn, _, by omega, by omega, by first | rfl | go_num, by go_num, HE.out.1, HE.out.2.1, HE.out.2.2⟩
      case measure => simp only [intOf]; omega
    · have hfin : tidyL (zs.take k) = tidyL zs := by
        have e : List.take 64 (List.take k zs) = List.take 64 zs := by
          rw [List.take_take]
          by_cases h : k < zs.length
          · rw [show min 64 k = 64 by omega]
          · obtain rfl : k = zs.length := by omega
            rw [show min 64 zs.length = zs.length by omega, List.take_of_length_le (Nat.le_refl _), List.take_of_length_le (by omega)]
        simp only [tidyL, e]
      have hkl : k = (tidyL zs).length := by rw [← hfin]; simp [tidyL]; omega
      rw [hfin] at how
      have HW : Hid _ := And.intro how hkw
      have HKL : Hid _ := hkl
      clear hkw how hlo hfin hkl
      by_cases h1 : k < zs.length
      · have j1 : (k : Int) < (zs.length : Int) := by omega
        have j2 : ¬ (k : Int) < 64 := by omega
        go_wp2_with fail
        go_ret
        exact ⟨_, rfl, by rw [← HKL.out]; exact HW.out.1, HW.out.2⟩
      · have j1 : ¬ (k : Int) < (zs.length : Int) := by omega
        go_wp2_with fail
        go_ret
        exact ⟨_, rfl, by rw [← HKL.out]; exact HW.out.1, HW.out.2⟩
theorem cut_any (ao : Option Addr) (c : Nat) (zs : List Int) (w : World) (hc : zs.length ≤ c) :
    Calls Try.prog 18 #[.slice ao zs.length c] w fun e w' => e = .returned (.slice ao (zs.take 1048576).length c) ∧ w' = w := by
  by_cases h : 1048576 < zs.length
  · have i1 : (1048576 : Int) < (zs.length : Int) := by omega
    have e : (zs.take 1048576).length = 1048576 := by simp; omega
    rw [e]
    have i2 : 1048576 ≤ c := by omega
    go_enter Try.func18, Try.ntmps18
    go_wp2
    go_ret
    exact ⟨rfl, rfl⟩
  · have i1 : ¬ (1048576 : Int) < (zs.length : Int) := by omega
    have e : (zs.take 1048576).length = zs.length := by simp; omega
    rw [e]
    go_enter Try.func18, Try.ntmps18
    go_wp2
    go_ret
    exact ⟨rfl, rfl⟩
theorem length_any (ao : Option Addr) (c : Nat) (l : List Nat) (w : World) (hz : Ints w ao (l.map (fun n : Nat => (n : Int)))) (hl : Rounds l) :
    Calls Try.prog 19 #[.slice ao l.length c] w fun e w' => e = .returned (.int .i64 (total l)) ∧ w' = w := by
  have h64 := hl.len
  have HZ : Hid _ := hz
  have HR : Hid _ := hl
  clear hz hl
  go_enter Try.func19, Try.ntmps19
  go_wp2_with fail
  go_loopw [3, 4] (fun s3 s4 wr => wr = w ∧ ∃ k b : Nat, k ≤ l.length ∧ b + toGo l k = total l ∧ s3 = .int .i64 b ∧ s4 = .int .i64 k) (fun _ s4 _ => l.length - (intOf s4).toNat)
  case atStart => exact ⟨rfl, 0, 2, Nat.zero_le _, rfl, rfl, rfl⟩
  case round =>
    obtain ⟨rfl, k, b, hk, hbk, rfl, rfl⟩ := hrel
    have hb : b ≤ 3300 := by have := toGo_le HR.out; unfold total at hbk; omega
    have HB : Hid _ := hbk
    clear hbk
    by_cases hkl : k < l.length
    · obtain ⟨bl, off, rfl, -, hc⟩ := HZ.out (by simp; omega)
      have c0 := hc k (by simpa using hkl)
      rw [getD_map] at c0
      have h8 := HR.out.few k
      have hts := toGo_succ hkl
      have HT : Hid _ := hts
      generalize hn : l.getD k 0 = n at c0 h8
      have HN : Hid _ := hn
      have j1 : (k : Int) < (l.length : Int) := by omega
      have j2 : (b : Int) ≤ 3300 := by omega
      have j3 : (n : Int) ≤ 8 := by omega
      clear hc hts hn
      go_wp2_with fail
      go_roundw
      case rel => exact ⟨by first | rfl | trivial, k + 1, b + 6 * n + 2, by omega, by have h1 := HB.out; have h2 := HT.out; have h3 := HN.out; omega, by go_num, by go_num⟩
      case measure => simp only [intOf]; omega
    · have j1 : ¬ (k : Int) < (l.length : Int) := by omega
      obtain rfl : k = l.length := by omega
      go_wp2_with fail
      go_ret
      exact ⟨by have := HB.out; rw [toGo_end] at this; rw [← this]; simp, rfl⟩
end Go.Proofs.Ytlligclkoecknaa
