import Derived.Test.YtdiabpoafennlaaHyNew
/-! The player's small calls: which task is there, which view is in hand, a task's end, the next pick. -/
namespace Go.Proofs.Ytdiabpoafennlaa
set_option linter.unusedVariables false
set_option maxRecDepth 20000
set_option linter.unusedSimpArgs false
open Go.RowKit Go.HeapKit

section
variable {w : World} {base pb : Nat} {st : List Bool} {X : PX} {K : Ky → Value} {H R : Nat → Value} {s : PS}
/-- The current task in memory. -/
theorem PM.cur (h : PM w base pb st X K H R s) {tk : List (Nat × List Nat)} {x : Nat × List Nat} (hx : s.tk = tk ++ [x]) : ∃ tb, X.ta = some ⟨tb, 0, none⟩ ∧ base ≤ tb ∧ tb < w.heap.size ∧ tk.length + 1 ≤ X.tc ∧ w.cell? ⟨tb, tk.length * 2, none⟩ = some (.int .i64 x.1) ∧ w.cell? ⟨tb, tk.length * 2 + 1, none⟩ = some (H tk.length) ∧ ∀ i, w.frozen? ⟨tb, i, none⟩ = false := by
  have hl : s.tk.length = tk.length + 1 := by rw [hx]; simp
  obtain ⟨g, e, h1, h2, h3, h4, h5⟩ := own_cellS h.tk.tks (k := tk.length * 2) (range_get _ (by omega))
  obtain ⟨g', e', _, _, _, h6, _⟩ := own_cellS h.tk.tks (k := tk.length * 2 + 1) (range_get _ (by omega))
  rw [e] at e'
  injection e' with e'
  injection e' with e'
  subst e'
  refine ⟨g, e, h1, h2, by omega, ?_, ?_, h5⟩
  · rw [h4]
    simp [tkF, hx]
  · rw [h6]
    simp [tkF, show (tk.length * 2 + 1) % 2 = 1 by omega, show (tk.length * 2 + 1) / 2 = tk.length by omega]
/-- The current task's row in memory. -/
theorem PM.curRow (h : PM w base pb st X K H R s) {tk : List (Nat × List Nat)} {sp : Nat} {r : List Nat} (hx : s.tk = tk ++ [(sp, r)]) : w.ownsRow base 3 1 (R tk.length) r.length (nv r) := by
  have := h.tk.rows tk.length (by rw [hx]; simp)
  rwa [hx, rowOf_more tk (sp, r) _ (by simp), if_pos rfl] at this
theorem nv_at {r : List Nat} {i v : Nat} (h : r[i]? = some v) : (nv r)[i]? = some (.int .i64 v) := by simp [nv, iv, nI, h]
theorem last_at {r : List Nat} (h : r ≠ []) : r[r.length - 1]? = some (r.getLastD 0) := by
  have h1 := hand_split h
  have hl : r.length = r.dropLast.length + 1 := by
    conv => lhs; rw [h1]
    simp
  conv => lhs; rw [h1]
  rw [List.getElem?_append_right (by simp)]
  simp
end
set_option maxHeartbeats 800000 in
theorem current_ok (base pb : Nat) (st : List Bool) (X : PX) (K : Ky → Value) (H R : Nat → Value) (s : PS) (w : World) (tb : Nat) (tk : List (Nat × List Nat)) (x : Nat × List Nat) (h : PM w base pb st X K H R s) (hx : s.tk = tk ++ [x]) (hta : X.ta = some ⟨tb, 0, none⟩) (hn : tk.length ≤ 100000) :
    Calls Try.prog 57 #[.pointer (some ⟨pb, 0, none⟩)] w fun e w' => e = .returned (.pointer (some ⟨tb, tk.length * 2, none⟩)) ∧ Keeps None w w' := by
  obtain ⟨-, -, -, -, -, -, -, q7, -, -, -⟩ := h.c0
  rw [hta, hx, List.length_append, List.length_singleton] at q7
  have hw : wrap64 (((tk.length + 1 : Nat) : Int) - 1) = ((tk.length : Nat) : Int) := by unfold wrap64; omega
  have hw2 : (tk.length : Int) < ((tk.length + 1 : Nat) : Int) := by omega
  clear h hx hta
  go_enter Try.func57, Try.ntmps57
  go_upto_region 1 with fail
  go_quiet (fail)
  go_wp2
  go_ret
  exact ⟨rfl, keeps_drewN _ _⟩
set_option maxHeartbeats 800000 in
theorem hand_ok (base pb : Nat) (st : List Bool) (X : PX) (K : Ky → Value) (R : Nat → Value) (s : PS) (w : World) (tk : List (Nat × List Nat)) (sp : Nat) (r : List Nat) (h : PM w base pb st X K R R s) (hx : s.tk = tk ++ [(sp, r)]) (hr : r ≠ []) (hn : tk.length ≤ 100000) (hn2 : r.length ≤ 100000) :
    Calls Try.prog 56 #[.pointer (some ⟨pb, 0, none⟩)] w fun e w' => e = .returned (.int .i64 (r.getLastD 0 : Nat)) ∧ Keeps None w w' := by
  obtain ⟨tb, hta, -, -, -, -, t1, -⟩ := h.cur hx
  have hrow := h.curRow hx
  obtain ⟨ra, rc, he⟩ := row_shape hrow
  have hpos : 0 < r.length := List.length_pos_iff.2 hr
  rw [he] at hrow t1
  obtain ⟨g, rfl, -, -, hrc, hc, -⟩ := own_cellS hrow (k := r.length - 1) (nv_at (last_at hr))
  obtain ⟨L, hL⟩ : ∃ L, L = r.getLastD 0 := ⟨_, rfl⟩
  rw [← hL] at hc ⊢
  have HP : Hid (PM w base pb st X K R R s ∧ s.tk = tk ++ [(sp, r)] ∧ X.ta = some ⟨tb, 0, none⟩) := ⟨h, hx, hta⟩
  have HC : Hid (w.cell? ⟨tb, tk.length * 2 + 1, none⟩ = some (.slice (some ⟨g, 0, none⟩) r.length rc) ∧ w.cell? ⟨g, r.length - 1, none⟩ = some (.int .i64 L)) := ⟨t1, hc⟩
  have hw : wrap64 ((r.length : Int) - 1) = ((r.length - 1 : Nat) : Int) := by unfold wrap64; omega
  have hw2 : ((r.length - 1 : Nat) : Int) < (r.length : Int) := by omega
  clear h hx hta t1 hc hrow he hr hL
  go_enter Try.func56, Try.ntmps56
  go_wp2_with fail
  refine (current_ok base pb st X K R R s w tb tk (sp, r) HP.out.1 HP.out.2.1 HP.out.2.2 hn).mono ?_
  rintro e w1 ⟨rfl, hk⟩
  have t1 := hk.cell HC.out.1 (fun f => f)
  have hc := hk.cell HC.out.2 (fun f => f)
  go_wp2
  go_ret
  exact ⟨rfl, hk⟩
set_option maxHeartbeats 800000 in
theorem pick_ok (base pb : Nat) (st : List Bool) (X : PX) (K : Ky → Value) (H R : Nat → Value) (s : PS) (w : World) (h : PM w base pb st X K H R s) :
    Calls Try.prog 59 #[.pointer (some ⟨pb, 0, none⟩)] w fun e w' => e = .returned (.int .i64 (s.pk.headD 0)) ∧ (∃ X', PM w' base pb st X' K H R { s with pk := s.pk.tail } ∧ X'.ta = X.ta) ∧ Keeps (· = pb) w w' := by
  obtain ⟨-, -, -, -, -, q5, -, -, -, -, -⟩ := h.c0
  have hf5 := h.free 5
  have hcap := h.ar.capP
  have HP : Hid (PM w base pb st X K H R s) := h
  cases hp : s.pk with
  | nil =>
    rw [hp] at q5
    have HX : Hid (s.pk = []) := hp
    clear h hp hcap
    go_enter Try.func59, Try.ntmps59
    go_wp2
    go_ret
    refine ⟨rfl, ⟨X, ?_, rfl⟩, Keeps.refl _ _⟩
    have e : ({ s with pk := [] } : PS) = s := by rw [← HX.out]
    simp only [List.tail_nil]
    rw [e]
    exact HP.out
  | cons x pk =>
    obtain ⟨b, off, v, ha, -, hv, hc⟩ := h.ar.seenP.at (k := 0) (by rw [hp]; simp)
    rw [hp] at hv q5 hcap
    rw [ha] at q5
    obtain rfl : .int .i64 x = v := by simpa [iv] using hv
    rw [Nat.add_zero] at hc
    have HN : Hid (PM (w.setCell ⟨pb, 5, none⟩ (.slice (if X.pc = 1 then some ⟨b, off, none⟩ else some ⟨b, off + 1, none⟩) pk.length (X.pc - 1))) base pb st { X with pa := if X.pc = 1 then some ⟨b, off, none⟩ else some ⟨b, off + 1, none⟩, pc := X.pc - 1 } K H R { s with pk := pk }) := h.nextPick hp ha
    rw [List.length_cons] at q5 hcap
    have hc1 : 1 ≤ X.pc := by omega
    have hle : pk.length + 1 ≤ X.pc := hcap
    have hsub : pk.length + 1 - 1 = pk.length := by omega
    clear h hp hv ha hcap
    by_cases e1 : X.pc = 1
    · have HE : Hid (X.pc = 1) := e1
      rw [e1] at q5 hc1 hle
      have HN2 : Hid (PM (w.setCell ⟨pb, 5, none⟩ (.slice (some ⟨b, off, none⟩) pk.length 0)) base pb st { X with pa := some ⟨b, off, none⟩, pc := 0 } K H R { s with pk := pk }) := by
        have := HN.out
        rw [e1] at this
        exact this
      clear HN e1
      go_enter Try.func59, Try.ntmps59
      go_wp2
      go_ret
      exact ⟨rfl, ⟨_, HN2.out, rfl⟩, (Keeps.refl (· = pb) w).andSet (x := ⟨pb, 5, none⟩) (.inl rfl) _⟩
    · have HN2 : Hid (PM (w.setCell ⟨pb, 5, none⟩ (.slice (some ⟨b, off + 1, none⟩) pk.length (X.pc - 1))) base pb st { X with pa := some ⟨b, off + 1, none⟩, pc := X.pc - 1 } K H R { s with pk := pk }) := by
        have := HN.out
        simp only [if_neg e1] at this
        exact this
      clear HN
      go_enter Try.func59, Try.ntmps59
      go_wp2
      go_ret
      exact ⟨rfl, ⟨_, HN2.out, rfl⟩, (Keeps.refl (· = pb) w).andSet (x := ⟨pb, 5, none⟩) (.inl rfl) _⟩
end Go.Proofs.Ytdiabpoafennlaa
