import Derived.Test.YtncbejpefokhhaaCpRefPlay
import Derived.Test.YtncbejpefokhhaaBookAccess
/-! The document's Play: its lists, and the whole. -/
namespace Go.Proofs.Ytncbejpefokhhaa
set_option linter.unusedVariables false
open Go.RowKit Go.HeapKit

theorem own_base {w : World} {b b' : Nat} {e : TypeId} {size : Nat} {v : Value} {n : Nat} {xs : List Value} (h : w.ownsRow b e size v n xs) (hb : ∀ g, v.ownBlock = some g → b' ≤ g) : w.ownsRow b' e size v n xs := by
  refine ⟨h.1, ?_⟩
  rcases h.2 with h | ⟨g, cap, cur, rfl, _, r⟩
  · exact .inl h
  · exact .inr ⟨g, cap, cur, rfl, hb g rfl, r⟩
theorem own_low {w : World} {b : Nat} {e : TypeId} {size : Nat} {v : Value} {n : Nat} {xs : List Value} (h : w.ownsRow b e size v n xs) {g : Nat} (hg : v.ownBlock = some g) : b ≤ g := by
  rcases h.2 with ⟨rfl, _⟩ | ⟨g', cap, cur, rfl, hbg, _⟩
  · simp [Value.ownBlock] at hg
  · simp [Value.ownBlock] at hg; omega
theorem rcells_ok (p : Nat) (vc vl : Value) (A : Ar) (w : World) (h : IsRef w p vc vl A) :
    Calls Try.prog 17 #[.pointer (some ⟨p, 0, none⟩)] w fun e w' => ∃ ao c, e = .returned (.slice ao A.cells.length c) ∧ w'.ownsRow w.heap.size 2 1 (.slice ao A.cells.length c) A.cells.length (A.cells.map (Value.int .i64)) ∧ Keeps None w w' := by
  have HH : Hid (IsRef w p vc vl A) := h
  obtain ⟨ac, cc, hvc⟩ := own_shape h.cells
  obtain ⟨n, hn⟩ : ∃ n, n = A.cells.length := ⟨_, rfl⟩
  have hfit := h.fit
  have hs : n ≤ 1048576 := by omega
  have HN : Hid (n = A.cells.length ∧ vc = .slice ac A.cells.length cc) := ⟨hn, hvc⟩
  rw [← hn]
  clear h hvc hn hfit
  go_enter Try.func17, Try.ntmps17
  go_wp2_with fail
  go_loopw [3, 4] (fun s i wr => ∃ k : Nat, k ≤ n ∧ i = .int .i64 k ∧ wr.ownsRow w.heap.size 2 1 s k ((A.cells.take k).map (Value.int .i64)) ∧ Keeps None w wr) (fun _ i _ => n - (intOf i).toNat)
  case atStart => exact ⟨0, Nat.zero_le _, rfl, World.ownsRow_nil _ _ _ _, Keeps.refl _ _⟩
  case round =>
    obtain ⟨k, hk, rfl, hrow, hkp⟩ := hrel
    obtain ⟨sa, cs, rfl⟩ := own_shape hrow
    have hI := HH.out.kept hkp (fun _ _ f => f)
    have c1 := hI.c1
    rw [HN.out.2, ← HN.out.1] at c1
    by_cases hkn : k < n
    · obtain ⟨x, hx⟩ : ∃ x, A.cells[k]? = some x := ⟨A.cells[k]'(by have := HN.out.1; omega), by simp⟩
      have hcl := hI.cells
      rw [HN.out.2, ← HN.out.1] at hcl
      obtain ⟨g, rfl, hc⟩ := row_at hcl (by omega)
      have y0 := hc k _ (by rw [List.getElem?_map, hx]; rfl)
      have i1 : (k : Int) < (n : Int) := by omega
      obtain ⟨g2, cp, w2, hr, ho, hk2, hm⟩ := nums_more (.slice sa k cs) k (A.cells.take k) wr (own_base hrow (fun _ _ => Nat.zero_le _)) x (by omega)
      have HR : Hid (w2.ownsRow w.heap.size 2 1 (.slice (some ⟨g2, 0, none⟩) (k + 1) cp) (k + 1) ((A.cells.take (k + 1)).map (Value.int .i64)) ∧ Keeps None w w2) := by
        rw [List.take_add_one, hx]
        refine ⟨own_base ho (fun i e => ?_), hkp.trans hk2 (fun i e hi => by have := own_low hrow e; omega)⟩
        simp [Value.ownBlock] at e
        subst e
        rcases hm with e | e
        · exact own_low hrow e
        · have := hkp.size; omega
      clear hI hcl hc hx hrow hkp ho hk2 hm HH
      go_wp2_with (at_builtin; refine wpList_append_run rfl (.tmp 14) (.tmp 22) 24 24 rfl rfl rfl hr ?_)
      exact ⟨⟨k + 1, by omega, by go_num, HR.out⟩, by simp [intOf]; omega⟩
    · have hkn2 : k = n := by omega
      subst hkn2
      have HR : Hid (wr.ownsRow w.heap.size 2 1 (.slice sa k cs) k (A.cells.map (Value.int .i64)) ∧ Keeps None w wr) := by
        rw [List.take_of_length_le (by have := HN.out.1; omega)] at hrow
        exact ⟨hrow, hkp⟩
      clear hI hrow hkp HH
      go_wp2
      go_ret
      exact ⟨_, _, rfl, HR.out⟩
theorem logVals_more {l : List Acc} {k : Nat} {x : Acc} (h : l[k]? = some x) : logVals (l.take (k + 1)) = logVals (l.take k) ++ x.vals := by
  rw [List.take_add_one, h]; simp [logVals]
theorem rlog_ok (p : Nat) (vc vl : Value) (A : Ar) (w : World) (h : IsRef w p vc vl A) (hs : A.log.length ≤ 1000000) :
    Calls Try.prog 18 #[.pointer (some ⟨p, 0, none⟩)] w fun e w' => ∃ ao c, e = .returned (.slice ao A.log.length c) ∧ w'.ownsRow w.heap.size 65 6 (.slice ao A.log.length c) A.log.length (logVals A.log) ∧ Keeps None w w' := by
  have HH : Hid (IsRef w p vc vl A) := h
  obtain ⟨ac, cc, hvc⟩ := own_shape h.log
  obtain ⟨n, hn⟩ : ∃ n, n = A.log.length := ⟨_, rfl⟩
  have HN : Hid (n = A.log.length ∧ vl = .slice ac A.log.length cc) := ⟨hn, hvc⟩
  rw [← hn] at hs ⊢
  clear h hvc hn
  go_enter Try.func18, Try.ntmps18
  go_wp2_with fail
  go_loopw [3, 4] (fun s i wr => ∃ k : Nat, k ≤ n ∧ i = .int .i64 k ∧ wr.ownsRow w.heap.size 65 6 s k (logVals (A.log.take k)) ∧ Keeps None w wr) (fun _ i _ => n - (intOf i).toNat)
  case atStart => exact ⟨0, Nat.zero_le _, rfl, World.ownsRow_nil _ _ _ _, Keeps.refl _ _⟩
  case round =>
    obtain ⟨k, hk, rfl, hrow, hkp⟩ := hrel
    obtain ⟨sa, cs, rfl⟩ := own_shape hrow
    have hI := HH.out.kept hkp (fun _ _ f => f)
    have c1 := hI.c4
    rw [HN.out.2, ← HN.out.1] at c1
    by_cases hkn : k < n
    · obtain ⟨x, hx⟩ : ∃ x, A.log[k]? = some x := ⟨A.log[k]'(by have := HN.out.1; omega), by simp⟩
      have hcl := hI.log
      rw [HN.out.2, ← HN.out.1] at hcl
      obtain ⟨g, rfl, hc⟩ := row_at hcl (by omega)
      have y0 := hc (k * 6) _ (logVals_at A.log k x hx 0 _ rfl)
      have y1 := hc (k * 6 + 1) _ (logVals_at A.log k x hx 1 _ rfl)
      have y2 := hc (k * 6 + 2) _ (logVals_at A.log k x hx 2 _ rfl)
      have y3 := hc (k * 6 + 3) _ (logVals_at A.log k x hx 3 _ rfl)
      have y4 := hc (k * 6 + 4) _ (logVals_at A.log k x hx 4 _ rfl)
      have y5 := hc (k * 6 + 5) _ (logVals_at A.log k x hx 5 _ rfl)
      have i1 : (k : Int) < (n : Int) := by omega
      obtain ⟨g2, cp, w2, hr, ho, hk2, hm⟩ := accs_more (.slice sa k cs) k (logVals (A.log.take k)) wr (own_base hrow (fun _ _ => Nat.zero_le _)) #[.int .i64 x.who, .int .i64 x.kind, .int .i64 x.addr, .int .i64 x.a, .int .i64 x.b, .bool x.ok] rfl (fun u hu => by simp at hu; rcases hu with rfl | rfl | rfl | rfl | rfl | rfl <;> rfl) (by omega)
      have HR : Hid (w2.ownsRow w.heap.size 65 6 (.slice (some ⟨g2, 0, none⟩) (k + 1) cp) (k + 1) (logVals (A.log.take (k + 1))) ∧ Keeps None w w2) := by
        rw [logVals_more hx]
        refine ⟨own_base ho (fun i e => ?_), hkp.trans hk2 (fun i e hi => by have := own_low hrow e; omega)⟩
        simp [Value.ownBlock] at e
        subst e
        rcases hm with e | e
        · exact own_low hrow e
        · have := hkp.size; omega
      clear hI hcl hc hx hrow hkp ho hk2 hm HH
      go_wp2_with (at_builtin; refine wpList_append_run rfl (.tmp 14) (.tmp 22) 25 25 rfl rfl rfl hr ?_)
      exact ⟨⟨k + 1, by omega, by go_num, HR.out⟩, by simp [intOf]; omega⟩
    · have hkn2 : k = n := by omega
      subst hkn2
      have HR : Hid (wr.ownsRow w.heap.size 65 6 (.slice sa k cs) k (logVals A.log) ∧ Keeps None w wr) := by
        rw [List.take_of_length_le (by have := HN.out.1; omega)] at hrow
        exact ⟨hrow, hkp⟩
      clear hI hrow hkp HH
      go_wp2
      go_ret
      exact ⟨_, _, rfl, HR.out⟩
theorem IsRef.act {w : World} {p : Nat} {vc vl : Value} {A : Ar} (h : IsRef w p vc vl A) (u : Int) : IsRef (w.setCell ⟨p, 3, none⟩ (.int .i64 u)) p vc vl { A with actor := u } := by
  have hkp : Keeps (· = p) w (w.setCell ⟨p, 3, none⟩ (.int .i64 u)) := Keeps.setCell (S := (· = p)) w (a := ⟨p, 3, none⟩) rfl _
  exact ⟨(setCell_block h.blk _).trans rfl, hkp.own h.cells (fun k e e2 => h.ncp (e2 ▸ e)), hkp.own h.log (fun k e e2 => h.nlp (e2 ▸ e)), h.fit⟩
theorem IsRef.watch {w : World} {p : Nat} {vc vl : Value} {A : Ar} (h : IsRef w p vc vl A) (t : Bool) : IsRef (w.setCell ⟨p, 2, none⟩ (.bool t)) p vc vl { A with on := t } := by
  have hkp : Keeps (· = p) w (w.setCell ⟨p, 2, none⟩ (.bool t)) := Keeps.setCell (S := (· = p)) w (a := ⟨p, 2, none⟩) rfl _
  exact ⟨(setCell_block h.blk _).trans rfl, hkp.own h.cells (fun k e e2 => h.ncp (e2 ▸ e)), hkp.own h.log (fun k e e2 => h.nlp (e2 ▸ e)), h.fit⟩
theorem rdo_acted (p : Nat) (vc vl : Value) (A : Ar) (u k x a b : Int) (w : World) (h : IsRef w p vc vl A) (hlog : A.log.length < 1000000000000) :
    Calls Try.prog 16 #[.pointer (some ⟨p, 0, none⟩), .agg #[.int .i64 u, .int .i64 k, .int .i64 x, .int .i64 a, .int .i64 b]] w fun e w' => e = .returned (A.acted k x a b).1.value ∧ RAfter w w' p vc vl (A.acted k x a b).2 := by
  unfold Ar.acted
  by_cases hk : 0 ≤ k ∧ k ≤ 4
  · rw [if_pos hk]
    exact do_any p vc vl A u k x a b w h hlog hk
  · rw [if_neg hk]
    exact do_bad p vc vl A u k x a b w h (by omega)
end Go.Proofs.Ytncbejpefokhhaa
