import Derived.Test.YtlajblbfelcalabScDraw
/-! Pull, from whatever can be drawn from. -/
namespace Go.Proofs.Ytlajblbfelcalab
set_option linter.unusedVariables false
set_option maxRecDepth 20000
open Go.RowKit Go.HeapKit Go.Sc

/-- Something that can be drawn from: where it lies (F), what the k-th draw is. -/
structure RandK (T : TypeId) (pv : Value) (N : Nat) (St : World → Nat → Prop) (val : Nat → Int) (F : Nat → Prop) : Prop where
  m : ∀ w, (method 193 T pv "Draw").run Try.prog w = .ok (N, pv) w
  cF : ∀ args w, (callFunc N args).run Try.prog w = .ok (.enter N args) w
  kept : ∀ (S : Nat → Prop) w w' k, St w k → Keeps S w w' → (∀ i, F i → ¬ S i) → St w' k
  draw : ∀ w k, St w k → k ≤ 4194304 → Calls Try.prog N #[pv] w fun e w' => e = .returned (.int .i64 (val k)) ∧ St w' (k + 1) ∧ Keeps F w w'
def refE (n : Int) : Int := if n < 0 then 3 else if 1048576 < n then 2 else 0
theorem refusal_any (n : Int) (w : World) : Calls Try.prog 20 #[.int .i64 n] w fun e w' => e = .returned (.int .i64 (refE n)) ∧ w' = w := by
  by_cases h1 : n < 0
  · go_enter Try.func20, Try.ntmps20
    go_wp2
    go_ret
    exact ⟨by simp [refE, h1], rfl⟩
  · by_cases h2 : 1048576 < n
    · go_enter Try.func20, Try.ntmps20
      go_wp2
      go_ret
      exact ⟨by unfold refE; rw [if_neg (by omega), if_pos h2]; rfl, rfl⟩
    · go_enter Try.func20, Try.ntmps20
      go_wp2
      go_ret
      exact ⟨by unfold refE; rw [if_neg (by omega), if_neg (by omega)]; rfl, rfl⟩
theorem ifaceNe (T : TypeId) (pv : Value) (w : World) : Sem.run Try.prog (binOp BinOp.eql 64 (.iface T pv) .nilIface) w = .ok (.bool false) w := by kernel_rfl
theorem pull_nil (n : Int) (w : World) : Calls Try.prog 22 #[.nilIface, .int .i64 n] w fun e w' => e = .returned (.tuple #[.slice none 0 0, .int .i64 1]) ∧ w' = w := by
  go_enter Try.func22, Try.ntmps22
  go_wp2
  go_ret2
  exact ⟨rfl, rfl⟩
theorem pull_bad (T : TypeId) (pv : Value) (n : Int) (w : World) (h : refE n ≠ 0) : Calls Try.prog 22 #[.iface T pv, .int .i64 n] w fun e w' => e = .returned (.tuple #[.slice none 0 0, .int .i64 (refE n)]) ∧ w' = w := by
  have hi := ifaceNe T pv
  by_cases h1 : n < 0
  · have e : refE n = 3 := by simp [refE, h1]
    rw [e]
    clear e h
    go_enter Try.func22, Try.ntmps22
    go_wp2
    go_ret2
    exact ⟨rfl, rfl⟩
  · have h2 : 1048576 < n := by
      unfold refE at h
      rw [if_neg h1] at h
      split at h
      · assumption
      · exact absurd rfl h
    have e : refE n = 2 := by unfold refE; rw [if_neg h1, if_pos h2]
    rw [e]
    clear e h
    go_enter Try.func22, Try.ntmps22
    go_wp2
    go_ret2
    exact ⟨rfl, rfl⟩
set_option maxHeartbeats 1600000 in
theorem pull_any {T : TypeId} {pv : Value} {N : Nat} {St : World → Nat → Prop} {val : Nat → Int} {F : Nat → Prop} (K : RandK T pv N St val F) (n k0 : Nat) (w : World) (hn : n ≤ 1048576) (hk0 : k0 + n ≤ 4194304) (h : St w k0) (hF : ∀ i, F i → i < w.heap.size) :
    Calls Try.prog 22 #[.iface T pv, .int .i64 n] w fun e w' => ∃ g, e = .returned (.tuple #[.slice (some ⟨g, 0, none⟩) n n, .int .i64 0]) ∧ IsN w' g n (fun i => val (k0 + i)) ∧ St w' (k0 + n) ∧ w.heap.size ≤ g ∧ Keeps F w w' := by
  have HK : Hid (RandK T pv N St val F ∧ St w k0 ∧ ∀ i, F i → i < w.heap.size) := ⟨K, h, hF⟩
  have hi := ifaceNe T pv
  have hm := K.m
  have hc := K.cF
  clear K h hF
  have hmk := fun wz : World => make_ints n wz (by omega)
  go_enter Try.func22, Try.ntmps22
  go_wp2_with (at_make; refine wpList_make_run rfl (.tmp 17) (.tmp 17) 23 rfl rfl rfl (hmk _) ?_)
  obtain ⟨g, hg⟩ : ∃ g, g = w.heap.size := ⟨_, rfl⟩
  have HG : Hid (g = w.heap.size) := hg
  rw [← hg]
  clear hg hmk
  go_loopw [21, 7] (fun s21 _ wr => ∃ k : Nat, s21 = .int .i64 k ∧ k ≤ n ∧ IsN wr g n (fun i => if i < k then val (k0 + i) else 0) ∧ St wr (k0 + k) ∧ Keeps F w wr) (fun s21 _ _ => n - (intOf s21).toNat)
  case atStart =>
    refine ⟨0, rfl, Nat.zero_le _, isN_new _ _ _ HG.out.symm, ?_, (keeps1 _ _).mono (fun _ f _ => f.elim)⟩
    exact HK.out.1.kept _ _ _ _ HK.out.2.1 (keeps1 _ _) (fun _ _ f => f)
  case round =>
    obtain ⟨k, rfl, hk, hN, hSt, hkp⟩ := hrel
    have HR : Hid (IsN wr g n (fun i => if i < k then val (k0 + i) else 0) ∧ St wr (k0 + k) ∧ Keeps F w wr) := ⟨hN, hSt, hkp⟩
    clear hN hSt hkp
    by_cases hkn : k < n
    · have i1 : (k : Int) < (n : Int) := by omega
      have n0 : ¬ n = 0 := by omega
      go_wp2_with fail
      refine (HK.out.1.draw _ _ HR.out.2.1 (by omega)).mono ?_
      rintro _ w1 ⟨rfl, hS1, hk1⟩
      have hgF : ¬ F g := fun f => by have := HK.out.2.2 g f; have := HG.out; omega
      have hN1 := HR.out.1.kept hk1 hgF
      have d1 := hN1.at hkn
      have f1 := hN1.free k
      have hkS : Keeps (· = g) w1 (w1.setCell ⟨g, k, none⟩ (.int .i64 (val (k0 + k)))) := Keeps.setCell (S := (· = g)) w1 rfl _
      have HN : Hid (IsN (w1.setCell ⟨g, k, none⟩ (.int .i64 (val (k0 + k)))) g n (fun i => if i < k + 1 then val (k0 + i) else 0) ∧ St (w1.setCell ⟨g, k, none⟩ (.int .i64 (val (k0 + k)))) (k0 + (k + 1)) ∧ Keeps F w (w1.setCell ⟨g, k, none⟩ (.int .i64 (val (k0 + k))))) := by
        refine ⟨(hN1.set k _).congr (fun i hi => ?_), HK.out.1.kept _ _ _ _ hS1 hkS (fun i hi e => by subst e; exact hgF hi), (HR.out.2.2.trans hk1 (fun _ f _ => f)).trans hkS (fun i e hi => by have := HG.out; omega)⟩
        unfold upd
        by_cases e : i = k
        · subst e; rw [if_pos rfl, if_pos (by omega)]
        · rw [if_neg e]
          by_cases e2 : i < k
          · simp only; rw [if_pos e2, if_pos (by omega)]
          · simp only; rw [if_neg e2, if_neg (by omega)]
      generalize (if k < k then val (k0 + k) else 0) = y0 at d1
      generalize val (k0 + k) = y1 at *
      clear hS1 hk1 hN1 hkS hgF
      go_wp2_with fail
      exact ⟨⟨k + 1, by go_num, by omega, HN.out⟩, by simp [intOf]; omega⟩
    · have i1 : ¬ (k : Int) < (n : Int) := by omega
      obtain rfl : k = n := by omega
      go_wp2_with fail
      go_ret2
      exact ⟨g, rfl, HR.out.1.congr (fun i hi => by rw [if_pos hi]), HR.out.2.1, by have := HG.out; omega, HR.out.2.2⟩
theorem draw_nobody (w : World) : Calls Try.prog 23 #[.pointer none] w fun e w' => e = .returned (.int .i64 0) ∧ w' = w := by
  go_enter Try.func23, Try.ntmps23
  go_wp2_with fail
  go_ret
  exact ⟨rfl, rfl⟩
theorem nobody_kind : RandK 37 (.pointer none) 23 (fun _ _ => True) (fun _ => 0) None where
  m := fun _ => by kernel_rfl
  cF := fun args w => by go_simp
  kept := fun _ _ _ _ _ _ _ => trivial
  draw := fun w k h hk => (draw_nobody w).mono fun e w' ⟨h1, h2⟩ => ⟨h1, trivial, by subst h2; exact Keeps.refl _ _⟩
theorem seeded_kind (g : Nat) (seed : Int) : RandK 37 (.pointer (some ⟨g, 0, none⟩)) 23 (fun w k => IsD w g (seedK seed k) seedF) (fun k => num (seedK seed (k + 1))) (· = g) where
  m := fun _ => by kernel_rfl
  cF := fun args w => by go_simp
  kept := fun S w w' k h hk hS => blk_kept h hk (hS g rfl)
  draw := fun w k h hk => draw_seeded g (seedK seed k) w h
end Go.Proofs.Ytlajblbfelcalab
