import Derived.Test.YtnhoedodnbifdaaDgHeap
/-! The heap in a plan: down, in, out. -/
namespace Go.Proofs.Ytnhoedodnbifdaa
set_option linter.unusedVariables false
set_option maxRecDepth 20000
open Go.RowKit Go.HeapKit

set_option maxHeartbeats 1600000 in
theorem sink_any (p base : Nat) (L Lf Tm v : Value) (hl : List Int) (w : World) (h : HpIn w p base L Lf Tm v hl) (hd : Dn hl 0) (hn : hl.length ≤ 4096) :
    Calls Try.prog 68 #[.pointer (some ⟨p, 2, none⟩)] w fun e w' => ∃ hl', e = .returned (.tuple #[]) ∧ HpIn w' p base L Lf Tm v hl' ∧ Hp hl' ∧ hl'.Perm hl ∧ Keeps (fun q => v.ownBlock = some q) w w' := by
  have H : Hid (HpIn w p base L Lf Tm v hl ∧ Dn hl 0) := ⟨h, hd⟩
  clear h hd
  go_enter Try.func68, Try.ntmps68
  go_wp2_with fail
  go_loopw [2, 3] (fun s2 _ wr => ∃ (i : Nat) (hl' : List Int), s2 = .int .i64 i ∧ (i = 0 ∨ i < hl.length) ∧ HpIn wr p base L Lf Tm v hl' ∧ Dn hl' i ∧ hl'.Perm hl ∧ Keeps (fun q => v.ownBlock = some q) w wr) (fun s2 _ _ => hl.length - (intOf s2).toNat)
  case atStart => exact ⟨0, hl, rfl, .inl rfl, H.out.1, H.out.2, List.Perm.refl _, Keeps.refl _ _⟩
  case round =>
    obtain ⟨i, hl', rfl, hi, hI, hD, hP, hk⟩ := hrel
    have hlen : hl'.length = hl.length := hP.length_eq
    have HI : Hid (HpIn wr p base L Lf Tm v hl' ∧ Dn hl' i ∧ hl'.Perm hl ∧ Keeps (fun q => v.ownBlock = some q) w wr ∧ hl'.length = hl.length ∧ (i = 0 ∨ i < hl.length)) := ⟨hI, hD, hP, hk, hlen, hi⟩
    have hi4 : i ≤ 4096 := by omega
    clear hI hD hP hk hlen hi
    go_wp2_with fail
    have e1 : 2 * (i : Int) + 1 = ((2 * i + 1 : Nat) : Int) := by omega
    have e2 : 2 * (i : Int) + 2 = ((2 * i + 2 : Nat) : Int) := by omega
    rw [e1, e2]
    have hl5 := HI.out.2.2.2.2.1
    refine (least_any p base L Lf Tm v hl' (2 * i + 1) (2 * i + 2) wr HI.out.1 (by omega) (by omega) (by omega) (by omega)).mono ?_
    rintro _ w2 ⟨rfl, hk2⟩
    have HI2 : Hid (HpIn w2 p base L Lf Tm v hl' ∧ Dn hl' i ∧ hl'.Perm hl ∧ Keeps (fun q => v.ownBlock = some q) w w2 ∧ hl'.length = hl.length ∧ (i = 0 ∨ i < hl.length)) :=
      ⟨HI.out.1.more hk2, HI.out.2.1, HI.out.2.2.1, HI.out.2.2.2.1.trans hk2 (fun _ f _ => f.elim), HI.out.2.2.2.2.1, HI.out.2.2.2.2.2⟩
    clear HI hk2 e1 e2 hl5
    obtain ⟨d, hd⟩ : ∃ d, d = leastV hl' (2 * i + 1) (2 * i + 2) := ⟨_, rfl⟩
    have hd2 : i < d ∧ d ≤ 9000 := by
      rw [hd]; unfold leastV; split <;> omega
    rw [← hd]
    have HDD : Hid (d = leastV hl' (2 * i + 1) (2 * i + 2)) := hd
    clear hd
    go_wp2_with fail
    have hl5 := HI2.out.2.2.2.2.1
    have hl6 := HI2.out.2.2.2.2.2
    refine (least_any p base L Lf Tm v hl' i d w2 HI2.out.1 (by omega) (by omega) (by omega) (by omega)).mono ?_
    rintro _ w3 ⟨rfl, hk3⟩
    have HI3 : Hid (HpIn w3 p base L Lf Tm v hl' ∧ Dn hl' i ∧ hl'.Perm hl ∧ Keeps (fun q => v.ownBlock = some q) w w3 ∧ hl'.length = hl.length ∧ (i = 0 ∨ i < hl.length)) :=
      ⟨HI2.out.1.more hk3, HI2.out.2.1, HI2.out.2.2.1, HI2.out.2.2.2.1.trans hk3 (fun _ f _ => f.elim), HI2.out.2.2.2.2.1, HI2.out.2.2.2.2.2⟩
    have hde : leastV hl' i d = downV hl' i := by rw [HDD.out]; rfl
    rw [hde]
    clear HI2 hk3 hl5 hl6 hde
    obtain ⟨D, hD⟩ : ∃ D, D = downV hl' i := ⟨_, rfl⟩
    have HD : Hid (D = downV hl' i) := hD
    rw [← hD]
    by_cases e : D = i
    · have eb : ((D : Int) == (i : Int)) = true := by simp [e]
      have HE : Hid (D = i) := e
      clear e hD
      go_wp2_with fail
      refine bodyPost_ret (results_none rfl _ _ _) rfl ?_
      have hfin := HI3.out.2.1.done (by rw [← HD.out]; exact HE.out)
      exact ⟨hl', rfl, HI3.out.1, hfin, HI3.out.2.2.1, HI3.out.2.2.2.1⟩
    · have eb : ((D : Int) == (i : Int)) = false := by simp; omega
      have hcs : D < hl'.length ∧ i < D := by
        rcases down_cases hl' i with ⟨h1, _⟩ | ⟨h1, h2, _⟩
        · omega
        · rw [← hD] at h1 h2; exact ⟨h1, h2⟩
      clear hD
      go_wp2_with fail
      have hl5 := HI3.out.2.2.2.2.1
      refine (swap_any p base L Lf Tm v hl' i D w3 HI3.out.1 (by omega) (by omega) (by omega)).mono ?_
      rintro _ w4 ⟨rfl, hI4, hk4⟩
      have HN : Hid (HpIn w4 p base L Lf Tm v (sw hl' i D) ∧ Dn (sw hl' i D) D ∧ (sw hl' i D).Perm hl ∧ Keeps (fun q => v.ownBlock = some q) w w4) := by
        refine ⟨hI4, ?_, (sw_perm hl' i D (by omega) (by omega)).trans HI3.out.2.2.1, HI3.out.2.2.2.1.trans hk4 (fun _ e _ => e)⟩
        have := HI3.out.2.1.step (by omega) (by rw [← HD.out]; omega)
        rw [← HD.out] at this
        exact this
      clear hI4 hk4
      go_wp2_with fail
      exact ⟨⟨D, _, rfl, .inr (by omega), HN.out⟩, by simp [intOf]; omega⟩
/-- A row cut short. -/
theorem row_cut {w : World} {base g n cap k : Nat} {l : List Int} (h : w.ownsRow base 3 1 (.slice (some ⟨g, 0, none⟩) n cap) n (iv l)) (hk : k ≤ n) : w.ownsRow base 3 1 (.slice (some ⟨g, 0, none⟩) k cap) k (iv (l.take k)) := by
  have hl : l.length = n := by have := h.1; rw [iv_len] at this; omega
  rcases h.2 with ⟨e, _⟩ | ⟨g', cap', cur, e, hb, hg, hnc, hcm, hcs, ht⟩
  · cases e
  · injection e with e1 e2 e3
    injection e1 with e1
    injection e1 with e1
    subst e1 e3
    refine ⟨by simp [iv]; omega, .inr ⟨g, cap, cur, rfl, hb, hg, by omega, hcm, hcs, ?_⟩⟩
    rw [show iv (l.take k) = (iv l).take k by simp [iv, List.map_take], ← ht, List.take_take]
    congr 1
    omega
theorem row_cap {w : World} {base g n cap : Nat} {xs : List Value} {e : TypeId} {size : Nat} (h : w.ownsRow base e size (.slice (some ⟨g, 0, none⟩) n cap) n xs) : n ≤ cap := by
  rcases h.2 with ⟨e, _⟩ | ⟨g', cap', cur, e, hb, hg, hnc, _⟩
  · cases e
  · injection e with e1 e2 e3
    omega
set_option maxHeartbeats 1600000 in
theorem pop_any (p base : Nat) (L Lf Tm v : Value) (hl : List Int) (w : World) (h : HpIn w p base L Lf Tm v hl) (hh : Hp hl) (h0 : 0 < hl.length) (hn : hl.length ≤ 4096) :
    Calls Try.prog 62 #[.pointer (some ⟨p, 2, none⟩)] w fun e w' => ∃ v' hl', e = .returned (.int .i64 (at' hl 0)) ∧ HpIn w' p base L Lf Tm v' hl' ∧ Hp hl' ∧ (hl' ++ [at' hl 0]).Perm hl ∧ Keeps (fun q => q = p ∨ v.ownBlock = some q) w w' ∧ v'.ownBlock = v.ownBlock := by
  obtain ⟨a, c, rfl⟩ := row_shape h.row
  obtain ⟨g, rfl, c0, _⟩ := row_at h.row (at_get h0)
  have c2 := h.c2
  have hcap := row_cap h.row
  have H : Hid (HpIn w p base L Lf Tm (.slice (some ⟨g, 0, none⟩) hl.length c) hl ∧ Hp hl) := ⟨h, hh⟩
  obtain ⟨n, hnn⟩ : ∃ n, n = hl.length := ⟨_, rfl⟩
  have HNN : Hid (n = hl.length) := hnn
  rw [← hnn] at c2 H h0 hn hcap ⊢
  obtain ⟨u, hu⟩ : ∃ u, u = at' hl 0 := ⟨_, rfl⟩
  have HU : Hid (u = at' hl 0) := hu
  rw [← hu] at c0 ⊢
  have i1 : (0 : Int) < (n : Int) := by omega
  have i2 : ¬ n = 0 := by omega
  clear h hh hu hnn
  go_enter Try.func62, Try.ntmps62
  go_wp2_with fail
  have e1 : (n : Int) - 1 = ((n - 1 : Nat) : Int) := by omega
  rw [e1]
  have hnl := HNN.out
  have hsw := swap_any p base L Lf Tm (.slice (some ⟨g, 0, none⟩) n c) hl 0 (n - 1) w H.out.1 (by omega) (by omega) (by omega)
  refine hsw.mono ?_
  rintro _ w2 ⟨rfl, hI2, hk2⟩
  clear hsw
  have hcut := row_cut (k := n - 1) (by have := hI2.row; rw [sw_len, ← hnl] at this; exact this) (by omega)
  have hkS : Keeps (· = p) w2 (w2.setCell ⟨p, 2, none⟩ (.slice (some ⟨g, 0, none⟩) (n - 1) c)) := Keeps.setCell (S := (· = p)) w2 rfl _
  have hlen2 : ((sw hl 0 (n - 1)).take (n - 1)).length = n - 1 := by rw [List.length_take, sw_len]; omega
  have HI3 : Hid (HpIn (w2.setCell ⟨p, 2, none⟩ (.slice (some ⟨g, 0, none⟩) (n - 1) c)) p base L Lf Tm (.slice (some ⟨g, 0, none⟩) (n - 1) c) ((sw hl 0 (n - 1)).take (n - 1)) ∧ Keeps (fun q => q = p ∨ (Value.slice (some ⟨g, 0, none⟩) n c).ownBlock = some q) w (w2.setCell ⟨p, 2, none⟩ (.slice (some ⟨g, 0, none⟩) (n - 1) c))) := by
    refine ⟨⟨?_, ?_⟩, (hk2.mono (fun i e _ => .inr e)).trans hkS (fun i e _ => .inl e)⟩
    · rw [blk_set hI2.blk]; rfl
    · rw [hlen2]
      exact row_kept hcut hkS (fun q e e2 => by subst e2; exact hI2.np (by simpa [Value.ownBlock] using e))
  have d2 := hI2.c2
  have f2 := hI2.free 2
  have i3 : ((n - 1 : Nat) : Int) ≤ (c : Int) := by omega
  clear hI2 hk2 hcut hkS e1 hnl c0 c2
  obtain ⟨m, hm⟩ : ∃ m, m = n - 1 := ⟨_, rfl⟩
  have HM : Hid (m = n - 1) := hm
  rw [← hm] at HI3 i3 hlen2 ⊢
  clear hm
  go_wp2_with fail
  refine (sink_any p base L Lf Tm _ _ _ HI3.out.1 (by
    have := HM.out
    have h3 := HNN.out
    have h4 := Dn.start H.out.2 (by omega)
    rw [← h3, ← this] at h4
    exact h4) (by have := HM.out; omega)).mono ?_
  rintro _ w4 ⟨hl', rfl, hI4, hp4, hperm, hk4⟩
  have HN : Hid (HpIn w4 p base L Lf Tm (.slice (some ⟨g, 0, none⟩) m c) hl' ∧ Hp hl' ∧ (hl' ++ [u]).Perm hl ∧ Keeps (fun q => q = p ∨ (Value.slice (some ⟨g, 0, none⟩) n c).ownBlock = some q) w w4) := by
    refine ⟨hI4, hp4, ?_, HI3.out.2.trans hk4 (fun i e _ => .inr (by simpa [Value.ownBlock] using e))⟩
    have h3 := HNN.out
    have h5 := popped_perm (l := hl) (by omega)
    rw [← h3, ← HM.out, ← HU.out] at h5
    exact (hperm.append_right [u]).trans h5
  clear hI4 hp4 hperm hk4
  go_wp2_with fail
  go_ret
  exact ⟨_, _, rfl, HN.out.1, HN.out.2.1, HN.out.2.2.1, HN.out.2.2.2, rfl⟩
end Go.Proofs.Ytnhoedodnbifdaa
