import Derived.Test.YtklepknkdkponaaDoorPfRows
/-! grow. -/
namespace Go.Proofs.YtklepknkdkponaaDoor
set_option linter.unusedVariables false
set_option maxRecDepth 20000
open Go.RowKit Go.HeapKit

theorem int_full (p m : Nat) (F : Nat → Int) (x : Int) (ty g0 : Nat) (w : World) (hm : m ≤ 8) (hp : w.heap[p]? = some (.cells ((List.range m).map (fun s => Value.int .i64 (F s))).toArray 3 (0, 0)))
    (hg0 : w.heap[g0]? = some (.cells #[.int .i64 x] 3 (0, 0))) :
    ∃ (g cap : Nat) (w' : World) (zs : List Int), (Builtin.append_ #[50, 50] ty #[.slice (some ⟨p, 0, none⟩) m m, .slice (some ⟨g0, 0, none⟩) 1 1]).run Tryd.prog w = .ok (.slice (some ⟨g, 0, none⟩) (m + 1) cap) w' ∧
      zs.length = m + 1 ∧ w'.ownsRow w.heap.size 3 1 (.slice (some ⟨g, 0, none⟩) (m + 1) cap) (m + 1) (zs.map (Value.int .i64)) ∧ Keeps None w w' := by
  have hrow : w.ownsRow 0 3 1 (.slice (some ⟨p, 0, none⟩) m m) m (((List.range m).map F).map (Value.int .i64)) := by
    refine ⟨by simp, .inr ⟨p, m, _, rfl, Nat.zero_le _, hp, Nat.le_refl _, by unfold maxLen; omega, by simp, ?_⟩⟩
    rw [Nat.mul_one, List.map_map]
    exact List.take_of_length_le (by simp)
  obtain ⟨g, cap, w', hr, ho, hk, hg⟩ := int_more 0 (.slice (some ⟨p, 0, none⟩) m m) ((List.range m).map F) x m ty g0 w (by simp) hrow (Nat.zero_le _) (by omega) hg0
  obtain ⟨i0, hi, hz0, hz1, hz2⟩ := info_parts Tryd.infoInt
  have hr2 := run_append_grow (P := Tryd.prog) w 50 ty 3 i0 _ Tryd.underlying50 hi hz0 ⟨p, 0, none⟩ m m (((List.range m).map F).map (Value.int .i64)) (by rw [hz1]; simp) (hrow.cells (g := p) rfl)
    ⟨g0, 0, none⟩ 1 1 [.int .i64 x] (by rw [hz1]; rfl) (by
      intro j u hu
      rw [show (⟨g0, 0, none⟩ : Addr).add j = ⟨g0, j, none⟩ by unfold Addr.add; split <;> simp_all, blk_cell hg0]
      simpa using hu) (by omega) (by omega) (growslice_fits (by omega) (by rw [hz2]; omega))
  rw [hr] at hr2
  injection hr2 with e1 e2
  simp only [Value.slice.injEq] at e1
  have eg : g = w.heap.size := by
    have := e1.1
    injection this with this
    injection this with this
  refine ⟨g, cap, w', (List.range m).map F ++ [x], hr, by simp, ⟨ho.1, ?_⟩, by rw [e2]; exact (Keeps.drew None w).andAlloc _⟩
  rcases ho.2 with ⟨h0, _⟩ | ⟨g', cap', cur, h1, h2, h3⟩
  · cases h0
  · refine .inr ⟨g', cap', cur, h1, ?_, h3⟩
    simp only [Value.slice.injEq] at h1
    have := h1.1
    injection this with this
    injection this with this
    omega
set_option maxHeartbeats 2000000 in
theorem grow_any (g n m : Nat) (M : Nat → Nat → Int) (w : World) (hn : n ≤ 512) (hm : m ≤ 8) (h1 : IsM w g n m n M) :
    Calls Tryd.prog 19 #[.slice (some ⟨g, 0, none⟩) n n] w fun e w' => e = .returned (.tuple #[]) ∧ Keeps None w w' := by
  have HC : Hid (IsM w g n m n M) := h1
  clear h1
  go_enter Tryd.func19, Tryd.ntmps19
  go_wp2_with fail
  go_loopw [2] (fun s2 wr => ∃ k : Nat, k ≤ n ∧ s2 = .int .i64 k ∧ Keeps None w wr) (fun i _ => n - (intOf i).toNat)
  case atStart => exact ⟨0, Nat.zero_le _, rfl, Keeps.refl _ _⟩
  case round =>
    obtain ⟨k, hk, rfl, hkp⟩ := hrel
    by_cases hkn : k < n
    · have i1 : (k : Int) < (n : Int) := by omega
      have y1 := (HC.out.more hkp).row hkn hkn
      have HK : Hid (IsM wr g n m n M ∧ Keeps None w wr) := ⟨HC.out.more hkp, hkp⟩
      have HR : Hid (wr.heap[g + 1 + k]? = some (.cells ((List.range m).map (fun s => Value.int .i64 (M k s))).toArray 3 (0, 0))) := (HC.out.more hkp).rows k hkn
      clear hkp
      have e1 : wrap64 (-1000 - k) = -1000 - k := by unfold wrap64; omega
      obtain ⟨r1, hr1⟩ : ∃ r1, r1 = g + 1 + k := ⟨_, rfl⟩
      rw [← hr1] at HR y1
      clear hr1
      obtain ⟨wk, hwk⟩ : ∃ wk, wk = wr := ⟨_, rfl⟩
      have HW : Hid (Keeps None w wk ∧ wk.heap[r1]? = some (.cells ((List.range m).map (fun s => Value.int .i64 (M k s))).toArray 3 (0, 0))) := by rw [hwk]; exact ⟨HK.out.2, HR.out⟩
      go_upto_region 4 with fail
      go_wp2_with fail
      clear y1 HK HR
      go_loopw [4, 3] (fun s4 s3 wx => ∃ j : Nat, j ≤ 64 ∧ s4 = .int .i64 j ∧ Keeps None wk wx ∧ (j = 0 ∧ s3 = .slice (some ⟨r1, 0, none⟩) m m ∨ ∃ (zs : List Int) (M1 : Nat), M1 = m + j ∧ zs.length = M1 ∧ wx.ownsRow wk.heap.size 3 1 s3 M1 (zs.map (Value.int .i64)))) (fun i _ _ => 64 - (intOf i).toNat)
      case atStart => exact ⟨0, by omega, rfl, by rw [hwk]; exact Keeps.refl _ _, .inl ⟨rfl, rfl⟩⟩
      case round =>
        obtain ⟨j, hj, rfl, hkp, hor⟩ := hrel
        by_cases hj64 : j < 64
        · have i2 : (j : Int) < 64 := by omega
          have hal := Keeps.alloc None wr (.cells #[.int .i64 (-1000 - k)] 3)
          have hnew := heap_alloc_new wr (.cells #[.int .i64 (-1000 - k)] 3)
          rcases hor with ⟨rfl, rfl⟩ | ⟨zs, M1, hM1, hzs, hrow⟩
          · obtain ⟨g7, cap7, w9, zs, hr7, hzs, ho7, hk7⟩ := int_full r1 m (M k) (-1000 - k) 50 wr.heap.size _ hm (blk_kept (blk_kept HW.out.2 hkp (fun f => f)) hal (fun f => f)) hnew
            have HQ : Hid (Keeps None wk w9 ∧ zs.length = m + 1 ∧ w9.ownsRow wk.heap.size 3 1 (.slice (some ⟨g7, 0, none⟩) (m + 1) cap7) (m + 1) (zs.map (Value.int .i64))) := by
              refine ⟨(hkp.trans hal (fun _ f _ => f)).trans hk7 (fun _ f _ => f), hzs, ⟨ho7.1, ?_⟩⟩
              rcases ho7.2 with h0 | ⟨g', cap', cur, h1, h2, h3⟩
              · exact .inl h0
              · exact .inr ⟨g', cap', cur, h1, Nat.le_trans (Nat.le_trans hkp.size hal.size) h2, h3⟩
            clear hkp hal hnew hzs ho7 hk7
            go_wp2_with (at_builtin; refine wpList_append_run rfl (.tmp 19) (.tmp 22) 50 50 rfl rfl rfl hr7 ?_)
            exact ⟨⟨0 + 1, by omega, by simp, HQ.out.1, .inr ⟨zs, m + 1, rfl, HQ.out.2.1, HQ.out.2.2⟩⟩, by simp [intOf]⟩
          · obtain ⟨g7, cap7, w9, hr7, ho7, hk7, hlow⟩ := int_more wk.heap.size u3 zs (-1000 - k) M1 50 wr.heap.size _ hzs.symm (hal.own hrow (fun _ _ f => f)) (Nat.le_trans hkp.size hal.size) (by omega) hnew
            have HQ : Hid (Keeps None wk w9 ∧ (zs ++ [-1000 - (k : Int)]).length = M1 + 1 ∧ w9.ownsRow wk.heap.size 3 1 (.slice (some ⟨g7, 0, none⟩) (M1 + 1) cap7) (M1 + 1) ((zs ++ [-1000 - (k : Int)]).map (Value.int .i64)) ∧ M1 = m + j) := by
              refine ⟨(hkp.trans hal (fun _ f _ => f)).trans hk7 (fun i e hi => ?_), by simp [hzs], ho7, hM1⟩
              rcases hrow.2 with ⟨rfl, _⟩ | ⟨g', cap', cur', rfl, hbg, _⟩
              · simp [Value.ownBlock] at e
              · simp [Value.ownBlock] at e; omega
            clear hkp hal hnew hzs ho7 hk7 hrow hlow hM1
            go_wp2_with (at_builtin; refine wpList_append_run rfl (.tmp 19) (.tmp 22) 50 50 rfl rfl rfl hr7 ?_)
            exact ⟨⟨j + 1, by omega, by simp, HQ.out.1, .inr ⟨_, M1 + 1, by have := HQ.out.2.2.2; omega, HQ.out.2.1, HQ.out.2.2.1⟩⟩, by simp [intOf]; omega⟩
        · have i2 : ¬ (j : Int) < 64 := by omega
          have HQ : Hid (Keeps None w wr) := HW.out.1.trans hkp (fun _ f _ => f)
          clear hkp hor
          go_wp2_with fail
          exact ⟨⟨k + 1, by omega, by simp, HQ.out⟩, by simp [intOf]; omega⟩
    · have i1 : ¬ ((k : Int) < (n : Int)) := by omega
      have HK : Hid (Keeps None w wr) := hkp
      clear hkp
      go_wp2_with fail
      go_end0
      exact ⟨rfl, HK.out⟩
end Go.Proofs.YtklepknkdkponaaDoor
