import Derived.Test.YtncbejpefokhhaaCpStands
/-! All lists of the book are as they were left: the walk. -/
namespace Go.Proofs.Ytncbejpefokhhaa
set_option linter.unusedVariables false
open Go.RowKit Go.HeapKit

set_option maxHeartbeats 8000000 in
theorem stands_ok (pb : Nat) (vn va : Value) (nx : Int) (its jts : List KI) (w : World) (h : IsBook w pb vn va nx its.length jts.length (kiVals its) (kiVals jts)) (hN : ∀ x ∈ its, NI w x) (hA : ∀ x ∈ jts, AI w x) (h1 : its.length ≤ 1000000) (h2 : jts.length ≤ 1000000) :
    Calls Try.prog 13 #[.pointer (some ⟨pb, 0, none⟩)] w fun e w' => e = .returned (.bool true) ∧ Keeps None w w' := by
  obtain ⟨an, cn, rfl⟩ := own_shape h.num
  obtain ⟨aa, ca, rfl⟩ := own_shape h.acc
  obtain ⟨nN, hnN⟩ : ∃ nN, nN = its.length := ⟨_, rfl⟩
  obtain ⟨nA, hnA⟩ : ∃ nA, nA = jts.length := ⟨_, rfl⟩
  rw [← hnN, ← hnA] at h
  rw [← hnN] at h1
  rw [← hnA] at h2
  have HH : Hid (IsBook w pb (.slice an nN cn) (.slice aa nA ca) nx nN nA (kiVals its) (kiVals jts) ∧ (∀ x ∈ its, NI w x) ∧ (∀ x ∈ jts, AI w x) ∧ nN = its.length ∧ nA = jts.length) := ⟨h, hN, hA, hnN, hnA⟩
  clear h hN hA hnN hnA
  go_enter Try.func13, Try.ntmps13
  go_wp2_with fail
  go_loopw [3] (fun i wr => ∃ k : Nat, k ≤ nN ∧ i = .int .i64 k ∧ Keeps None w wr) (fun i _ => nN - (intOf i).toNat)
  case atStart => exact ⟨0, Nat.zero_le _, rfl, Keeps.refl _ _⟩
  case round =>
    obtain ⟨k, hk, rfl, hkp⟩ := hrel
    have hB := HH.out.1.kept hkp (fun _ _ f => f)
    have b0 : wr.cell? ⟨pb, 0, none⟩ = some (.slice an nN cn) := (cell_of_block hB.blk 0).trans rfl
    by_cases hkn : k < nN
    · obtain ⟨x, hx⟩ : ∃ x, its[k]? = some x := ⟨its[k]'(by have := HH.out.2.2.2.1; omega), by simp⟩
      obtain ⟨g, rfl, hc⟩ := row_at hB.num (by omega)
      have y0 := hc (k * 5) _ (kiVals_at its k x hx 0 _ rfl)
      have y1 := hc (k * 5 + 1) _ (kiVals_at its k x hx 1 _ rfl)
      have y2 := hc (k * 5 + 2) _ (kiVals_at its k x hx 2 _ rfl)
      have y3 := hc (k * 5 + 3) _ (kiVals_at its k x hx 3 _ rfl)
      have y4 := hc (k * 5 + 4) _ (kiVals_at its k x hx 4 _ rfl)
      obtain ⟨⟨r0, r1, r2, r3⟩, hn⟩ := (HH.out.2.1 x (List.mem_of_getElem? hx)).kept hkp (fun _ _ _ f => f)
      have hst := stand_ok x.m x.ao x.n x.n x.a1 x.c1 x.a2 x.c2 x.a3 x.c3 wr r0 r1 r2 r3 (by omega)
      have i1 : (k : Int) < (nN : Int) := by omega
      have HK : Hid (Keeps None w wr) := hkp
      clear hc hx r0 r1 r2 r3 hB hkp
      go_wp2_with fail
      refine hst.mono ?_
      rintro e w2 ⟨rfl, hk2⟩
      have HN : Hid (Keeps None w w2) := HK.out.trans hk2 (fun _ f _ => f)
      clear hst hk2 HK y0 y1 y2 y3 y4 b0
      go_wp2_with fail
      exact ⟨⟨k + 1, by omega, by go_num, HN.out⟩, by simp [intOf]; omega⟩
    · have HK : Hid (Keeps None w wr) := hkp
      clear hkp hB
      go_wp2_with fail
      go_loopw [4, 5] (fun i _ wr => ∃ k : Nat, k ≤ nA ∧ i = .int .i64 k ∧ Keeps None w wr) (fun i _ _ => nA - (intOf i).toNat)
      case atStart => exact ⟨0, Nat.zero_le _, rfl, HK.out⟩
      case round =>
        clear HK b0
        obtain ⟨q, hq, rfl, hkp⟩ := hrel
        have hB := HH.out.1.kept hkp (fun _ _ f => f)
        have b1 : wr.cell? ⟨pb, 1, none⟩ = some (.slice aa nA ca) := (cell_of_block hB.blk 1).trans rfl
        by_cases hqn : q < nA
        · obtain ⟨x, hx⟩ : ∃ x, jts[q]? = some x := ⟨jts[q]'(by have := HH.out.2.2.2.2; omega), by simp⟩
          obtain ⟨g, rfl, hc⟩ := row_at hB.acc (by omega)
          have y0 := hc (q * 5) _ (kiVals_at jts q x hx 0 _ rfl)
          have y1 := hc (q * 5 + 1) _ (kiVals_at jts q x hx 1 _ rfl)
          have y2 := hc (q * 5 + 2) _ (kiVals_at jts q x hx 2 _ rfl)
          have y3 := hc (q * 5 + 3) _ (kiVals_at jts q x hx 3 _ rfl)
          have y4 := hc (q * 5 + 4) _ (kiVals_at jts q x hx 4 _ rfl)
          have hAI := (HH.out.2.2.1 x (List.mem_of_getElem? hx)).kept hkp (fun _ _ _ f => f)
          have i1 : (q : Int) < (nA : Int) := by omega
          obtain ⟨cb, hcb⟩ : ∃ cb, cb = wr.heap.size := ⟨_, rfl⟩
          have hk5 : Keeps None wr (wr.alloc (.cells #[.int .i64 x.m, .slice x.ao x.n x.n, .slice x.a1 (x.n + 1) x.c1, .slice x.a2 (x.n + 2) x.c2, .slice x.a3 (x.n + 3) x.c3] 71)) := Keeps.alloc None wr _
          have hb5 : (wr.alloc (.cells #[.int .i64 x.m, .slice x.ao x.n x.n, .slice x.a1 (x.n + 1) x.c1, .slice x.a2 (x.n + 2) x.c2, .slice x.a3 (x.n + 3) x.c3] 71)).heap[cb]? = some (.cells #[.int .i64 x.m, .slice x.ao x.n x.n, .slice x.a1 (x.n + 1) x.c1, .slice x.a2 (x.n + 2) x.c2, .slice x.a3 (x.n + 3) x.c3] 71 (0, 0)) := new_at _ _ _ hcb.symm
          have H5 : Hid (AI (wr.alloc (.cells #[.int .i64 x.m, .slice x.ao x.n x.n, .slice x.a1 (x.n + 1) x.c1, .slice x.a2 (x.n + 2) x.c2, .slice x.a3 (x.n + 3) x.c3] 71)) x ∧ Keeps None w (wr.alloc (.cells #[.int .i64 x.m, .slice x.ao x.n x.n, .slice x.a1 (x.n + 1) x.c1, .slice x.a2 (x.n + 2) x.c2, .slice x.a3 (x.n + 3) x.c3] 71))) := ⟨hAI.kept hk5 (fun _ _ _ f => f), hkp.trans hk5 (fun _ f _ => f)⟩
          clear hc hx hB hkp hAI hk5
          go_upto_region 10 with fail
          rw [← hcb]
          obtain ⟨w5, hw5⟩ : ∃ w5, w5 = wr.alloc (.cells #[.int .i64 x.m, .slice x.ao x.n x.n, .slice x.a1 (x.n + 1) x.c1, .slice x.a2 (x.n + 2) x.c2, .slice x.a3 (x.n + 3) x.c3] 71) := ⟨_, rfl⟩
          rw [← hw5] at hb5 H5 ⊢
          have d0 : w5.cell? ⟨cb, 0, none⟩ = some (.int .i64 x.m) := (cell_of_block hb5 0).trans rfl
          have d1 : w5.cell? ⟨cb, 1, none⟩ = some (.slice x.ao x.n x.n) := (cell_of_block hb5 1).trans rfl
          have d2 : w5.cell? ⟨cb, 2, none⟩ = some (.slice x.a1 (x.n + 1) x.c1) := (cell_of_block hb5 2).trans rfl
          have d3 : w5.cell? ⟨cb, 3, none⟩ = some (.slice x.a2 (x.n + 2) x.c2) := (cell_of_block hb5 3).trans rfl
          have d4 : w5.cell? ⟨cb, 4, none⟩ = some (.slice x.a3 (x.n + 3) x.c3) := (cell_of_block hb5 4).trans rfl
          clear hw5 hb5 hcb y0 y1 y2 y3 y4 b1
          have p0 : ∀ w1, Keeps None w5 w1 → Calls Try.prog 29 #[.slice x.ao x.n x.n] w1 fun e w' => ∃ a' c', e = .returned (.slice a' x.n c') ∧ w'.ownsRow 0 2 1 (.slice a' x.n c') x.n ((List.replicate x.n x.m).map (Value.int .i64)) ∧ Keeps None w1 w' := fun w1 hk => plain_ok x.ao x.n x.n (List.replicate x.n x.m) w1 (hk.own H5.out.1.1.r0 (fun _ _ f => f)) (by simp) (by have := H5.out.1.2; omega)
          have p1 : ∀ w1, Keeps None w5 w1 → Calls Try.prog 29 #[.slice x.a1 (x.n + 1) x.c1] w1 fun e w' => ∃ a' c', e = .returned (.slice a' (x.n + 1) c') ∧ w'.ownsRow 0 2 1 (.slice a' (x.n + 1) c') (x.n + 1) ((List.replicate x.n x.m ++ [wrap64 (x.m + 1)]).map (Value.int .i64)) ∧ Keeps None w1 w' := fun w1 hk => plain_ok x.a1 (x.n + 1) x.c1 _ w1 (hk.own H5.out.1.1.r1 (fun _ _ f => f)) (by simp) (by have := H5.out.1.2; omega)
          have p2 : ∀ w1, Keeps None w5 w1 → Calls Try.prog 29 #[.slice x.a2 (x.n + 2) x.c2] w1 fun e w' => ∃ a' c', e = .returned (.slice a' (x.n + 2) c') ∧ w'.ownsRow 0 2 1 (.slice a' (x.n + 2) c') (x.n + 2) ((List.replicate x.n x.m ++ [wrap64 (x.m + 2), wrap64 (x.m + 3)]).map (Value.int .i64)) ∧ Keeps None w1 w' := fun w1 hk => plain_ok x.a2 (x.n + 2) x.c2 _ w1 (hk.own H5.out.1.1.r2 (fun _ _ f => f)) (by simp) (by have := H5.out.1.2; omega)
          have p3 : ∀ w1, Keeps None w5 w1 → Calls Try.prog 29 #[.slice x.a3 (x.n + 3) x.c3] w1 fun e w' => ∃ a' c', e = .returned (.slice a' (x.n + 3) c') ∧ w'.ownsRow 0 2 1 (.slice a' (x.n + 3) c') (x.n + 3) ((List.replicate x.n x.m ++ [wrap64 (x.m + 4), wrap64 (x.m + 5), wrap64 (x.m + 6)]).map (Value.int .i64)) ∧ Keeps None w1 w' := fun w1 hk => plain_ok x.a3 (x.n + 3) x.c3 _ w1 (hk.own H5.out.1.1.r3 (fun _ _ f => f)) (by simp) (by have := H5.out.1.2; omega)
          go_cut [56] (fun s56 wx => s56 = .bool false ∧ Keeps None w5 wx)
          case first =>
            have hkd : Keeps None w5 w5.drew := Keeps.drew None w5
            go_region_held3 (fun w' => w'.cell? ⟨cb, 0, none⟩ = some (.int .i64 x.m) ∧ w'.cell? ⟨cb, 1, none⟩ = some (.slice x.ao x.n x.n) ∧ w'.cell? ⟨cb, 2, none⟩ = some (.slice x.a1 (x.n + 1) x.c1) ∧ w'.cell? ⟨cb, 3, none⟩ = some (.slice x.a2 (x.n + 2) x.c2) ∧ w'.cell? ⟨cb, 4, none⟩ = some (.slice x.a3 (x.n + 3) x.c3)) (first | exact hs5 | exact hs4 | exact hs3 | exact hs2 | exact hs1 | go_keep) (first
              | (go_at_call 28; refine (stand_ok x.m b1 x.n z1 b2 z2 b3 z3 b4 z4 w9 (((hq2.trans hq3 (fun _ f _ => f)).trans hq4 (fun _ f _ => f)).own ho1 (fun _ _ f => f)) ((hq3.trans hq4 (fun _ f _ => f)).own ho2 (fun _ _ f => f)) (hq4.own ho3 (fun _ _ f => f)) ho4 (by have := H5.out.1.2; omega)).mono ?_; rintro e w10 ⟨rfl, hq5⟩; have hkE : Keeps None w5 w10 := hk4.trans hq5 (fun _ f _ => f); have hs5 : w10.cell? ⟨cb, 0, none⟩ = some (.int .i64 x.m) ∧ w10.cell? ⟨cb, 1, none⟩ = some (.slice x.ao x.n x.n) ∧ w10.cell? ⟨cb, 2, none⟩ = some (.slice x.a1 (x.n + 1) x.c1) ∧ w10.cell? ⟨cb, 3, none⟩ = some (.slice x.a2 (x.n + 2) x.c2) ∧ w10.cell? ⟨cb, 4, none⟩ = some (.slice x.a3 (x.n + 3) x.c3) := ⟨hkE.cell d0 (fun f => f), hkE.cell d1 (fun f => f), hkE.cell d2 (fun f => f), hkE.cell d3 (fun f => f), hkE.cell d4 (fun f => f)⟩)
              | (go_at_call 29; refine (p3 _ hk3).mono ?_; rintro e w9 ⟨b4, z4, rfl, ho4, hq4⟩; have hk4 : Keeps None w5 w9 := hk3.trans hq4 (fun _ f _ => f); have hs4 : w9.cell? ⟨cb, 0, none⟩ = some (.int .i64 x.m) ∧ w9.cell? ⟨cb, 1, none⟩ = some (.slice x.ao x.n x.n) ∧ w9.cell? ⟨cb, 2, none⟩ = some (.slice x.a1 (x.n + 1) x.c1) ∧ w9.cell? ⟨cb, 3, none⟩ = some (.slice x.a2 (x.n + 2) x.c2) ∧ w9.cell? ⟨cb, 4, none⟩ = some (.slice x.a3 (x.n + 3) x.c3) := ⟨hk4.cell d0 (fun f => f), hk4.cell d1 (fun f => f), hk4.cell d2 (fun f => f), hk4.cell d3 (fun f => f), hk4.cell d4 (fun f => f)⟩)
              | (go_at_call 29; refine (p2 _ hk2).mono ?_; rintro e w8 ⟨b3, z3, rfl, ho3, hq3⟩; have hk3 : Keeps None w5 w8 := hk2.trans hq3 (fun _ f _ => f); have hs3 : w8.cell? ⟨cb, 0, none⟩ = some (.int .i64 x.m) ∧ w8.cell? ⟨cb, 1, none⟩ = some (.slice x.ao x.n x.n) ∧ w8.cell? ⟨cb, 2, none⟩ = some (.slice x.a1 (x.n + 1) x.c1) ∧ w8.cell? ⟨cb, 3, none⟩ = some (.slice x.a2 (x.n + 2) x.c2) ∧ w8.cell? ⟨cb, 4, none⟩ = some (.slice x.a3 (x.n + 3) x.c3) := ⟨hk3.cell d0 (fun f => f), hk3.cell d1 (fun f => f), hk3.cell d2 (fun f => f), hk3.cell d3 (fun f => f), hk3.cell d4 (fun f => f)⟩)
              | (go_at_call 29; refine (p1 _ hk1).mono ?_; rintro e w7 ⟨b2, z2, rfl, ho2, hq2⟩; have hk2 : Keeps None w5 w7 := hk1.trans hq2 (fun _ f _ => f); have hs2 : w7.cell? ⟨cb, 0, none⟩ = some (.int .i64 x.m) ∧ w7.cell? ⟨cb, 1, none⟩ = some (.slice x.ao x.n x.n) ∧ w7.cell? ⟨cb, 2, none⟩ = some (.slice x.a1 (x.n + 1) x.c1) ∧ w7.cell? ⟨cb, 3, none⟩ = some (.slice x.a2 (x.n + 2) x.c2) ∧ w7.cell? ⟨cb, 4, none⟩ = some (.slice x.a3 (x.n + 3) x.c3) := ⟨hk2.cell d0 (fun f => f), hk2.cell d1 (fun f => f), hk2.cell d2 (fun f => f), hk2.cell d3 (fun f => f), hk2.cell d4 (fun f => f)⟩)
              | (go_at_call 29; refine (p0 _ hkd).mono ?_; rintro e w6 ⟨b1, z1, rfl, ho1, hq1⟩; have hk1 : Keeps None w5 w6 := hkd.trans hq1 (fun _ f _ => f); have hs1 : w6.cell? ⟨cb, 0, none⟩ = some (.int .i64 x.m) ∧ w6.cell? ⟨cb, 1, none⟩ = some (.slice x.ao x.n x.n) ∧ w6.cell? ⟨cb, 2, none⟩ = some (.slice x.a1 (x.n + 1) x.c1) ∧ w6.cell? ⟨cb, 3, none⟩ = some (.slice x.a2 (x.n + 2) x.c2) ∧ w6.cell? ⟨cb, 4, none⟩ = some (.slice x.a3 (x.n + 3) x.c3) := ⟨hk1.cell d0 (fun f => f), hk1.cell d1 (fun f => f), hk1.cell d2 (fun f => f), hk1.cell d3 (fun f => f), hk1.cell d4 (fun f => f)⟩))
            all_goals (go_wp2_with fail; go_meet)
            all_goals exact ⟨rfl, hkE⟩
          case rest =>
            obtain ⟨rfl, hkx⟩ := hcut
            have HN : Hid (Keeps None w _) := H5.out.2.trans hkx (fun _ f _ => f)
            clear p0 p1 p2 p3 d0 d1 d2 d3 d4 hkx
            go_wp2_with fail
            exact ⟨⟨q + 1, by omega, by go_num, HN.out⟩, by simp [intOf]; omega⟩
        · have HN : Hid (Keeps None w wr) := hkp
          clear hB hkp
          go_wp2
          go_ret
          exact ⟨rfl, HN.out⟩
end Go.Proofs.Ytncbejpefokhhaa
