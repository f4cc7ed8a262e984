import Derived.Test.YtaipeclmfgdegaaSameWalks
import Derived.Test.YtaipeclmfgdegaaTellWalks
/-! The document's arena tells what it holds; New; with all that it may touch. -/
namespace Go.Proofs.Ytaipeclmfgdegaa
set_option linter.unusedVariables false
set_option maxRecDepth 20000
open Go.RowKit Go.HeapKit

theorem nums_more (v : Value) (n : Nat) (fs : List Int) (w : World) (hown : w.ownsRow 0 2 1 v n (fs.map (Value.int .i64))) (x : Int) (hs : n ≤ 2000000) :
    ∃ g cap w', (Builtin.append_ #[31, 31] 31 #[v, .slice (some ⟨w.heap.size, 0, none⟩) 1 1]).run Try.prog (w.alloc (.cells #[.int .i64 x] 2)) = .ok (.slice (some ⟨g, 0, none⟩) (n + 1) cap) w' ∧
      w'.ownsRow 0 2 1 (.slice (some ⟨g, 0, none⟩) (n + 1) cap) (n + 1) ((fs ++ [x]).map (Value.int .i64)) ∧ Keeps (fun k => v.ownBlock = some k) w w' ∧ (v.ownBlock = some g ∨ w.heap.size ≤ g) := by
  obtain ⟨i0, hi, hz0, hz1, hz2⟩ := info_parts Try.infoI64
  obtain ⟨v', w1, hr, ho, hgr, hm, -⟩ := run_append_moved (P := Try.prog) (w.alloc (.cells #[.int .i64 x] 2)) 0 31 31 2 i0 _ 1 8 Try.underlying31 hi hz0 hz1 hz2 rfl (by decide) v n _ (hown.alloc _)
    ⟨w.heap.size, 0, none⟩ 1 1 [.int .i64 x] rfl (by
      intro j u hu
      rw [show (⟨w.heap.size, 0, none⟩ : Addr).add j = ⟨w.heap.size, j, none⟩ by unfold Addr.add; split <;> simp_all, cell_of_block (new_at w _ _ rfl)]
      simpa using hu) (by intro u hu; simp at hu; subst hu; rfl) (by unfold maxLen; omega) (by omega) (Nat.zero_le _)
  obtain ⟨g, cap, rfl⟩ : ∃ g cap, v' = .slice (some ⟨g, 0, none⟩) (n + 1) cap := by
    rcases ho.2 with ⟨_, h0⟩ | ⟨b, cap, cur, rfl, _⟩
    · omega
    · exact ⟨b, cap, rfl⟩
  refine ⟨g, cap, w1, hr, by simpa using ho, ((Keeps.refl _ w).andAlloc _).andGrown hgr (fun k e => .inl e), ?_⟩
  rcases hm with hm | ⟨g', e, hg⟩
  · exact .inl (hm.symm.trans rfl)
  · simp [Value.ownBlock] at e; simp at hg; exact .inr (by omega)

theorem accs_more (v : Value) (n : Nat) (fs : List Value) (w : World) (hown : w.ownsRow 0 89 6 v n fs) (cs : Array Value) (hcs : cs.size = 6) (h1 : ∀ u ∈ cs.toList, u.oneCell' = true) (hs : n ≤ 4000000) :
    ∃ g cap w', (Builtin.append_ #[32, 32] 32 #[v, .slice (some ⟨w.heap.size, 0, none⟩) 1 1]).run Try.prog (w.alloc (.cells cs 89)) = .ok (.slice (some ⟨g, 0, none⟩) (n + 1) cap) w' ∧
      w'.ownsRow 0 89 6 (.slice (some ⟨g, 0, none⟩) (n + 1) cap) (n + 1) (fs ++ cs.toList) ∧ Keeps (fun k => v.ownBlock = some k) w w' ∧ (v.ownBlock = some g ∨ w.heap.size ≤ g) := by
  obtain ⟨i0, hi, hz0, hz1, hz2⟩ := info_parts Try.infoAcc
  obtain ⟨v', w1, hr, ho, hgr, hm, -⟩ := run_append_moved (P := Try.prog) (w.alloc (.cells cs 89)) 0 32 32 89 i0 _ 6 48 Try.underlying32 hi hz0 hz1 hz2 rfl (by decide) v n _ (hown.alloc _)
    ⟨w.heap.size, 0, none⟩ 1 1 cs.toList (by simpa using hcs) (by
      intro j u hu
      rw [show (⟨w.heap.size, 0, none⟩ : Addr).add j = ⟨w.heap.size, j, none⟩ by unfold Addr.add; split <;> simp_all, cell_of_block (new_at w _ _ rfl)]
      simpa using hu) h1 (by unfold maxLen; omega) (by omega) (Nat.zero_le _)
  obtain ⟨g, cap, rfl⟩ : ∃ g cap, v' = .slice (some ⟨g, 0, none⟩) (n + 1) cap := by
    rcases ho.2 with ⟨_, h0⟩ | ⟨b, cap, cur, rfl, _⟩
    · omega
    · exact ⟨b, cap, rfl⟩
  refine ⟨g, cap, w1, hr, ho, ((Keeps.refl _ w).andAlloc _).andGrown hgr (fun k e => .inl e), ?_⟩
  rcases hm with hm | ⟨g', e, hg⟩
  · exact .inl (hm.symm.trans rfl)
  · simp [Value.ownBlock] at e; simp at hg; exact .inr (by omega)
theorem own_base {w : World} {b b' : Nat} {e : TypeId} {size : Nat} {v : Value} {n : Nat} {xs : List Value} (h : w.ownsRow b e size v n xs) (hb : ∀ g, v.ownBlock = some g → b' ≤ g) : w.ownsRow b' e size v n xs := by
  refine ⟨h.1, ?_⟩
  rcases h.2 with h | ⟨g, cap, cur, rfl, _, r⟩
  · exact .inl h
  · exact .inr ⟨g, cap, cur, rfl, hb g rfl, r⟩
theorem own_low {w : World} {b : Nat} {e : TypeId} {size : Nat} {v : Value} {n : Nat} {xs : List Value} (h : w.ownsRow b e size v n xs) {g : Nat} (hg : v.ownBlock = some g) : b ≤ g := by
  rcases h.2 with ⟨rfl, _⟩ | ⟨g', cap, cur, rfl, hbg, _⟩
  · simp [Value.ownBlock] at hg
  · simp [Value.ownBlock] at hg; omega
theorem rcells_ok (p : Nat) (vc vl : Value) (A : Ar) (w : World) (h : IsRef w p vc vl A) :
    Calls Try.prog 14 #[.pointer (some ⟨p, 0, none⟩)] w fun e w' => ∃ ao c, e = .returned (.slice ao A.cells.length c) ∧ w'.ownsRow w.heap.size 2 1 (.slice ao A.cells.length c) A.cells.length (A.cells.map (Value.int .i64)) ∧ Keeps None w w' := by
  have HH : Hid (IsRef w p vc vl A) := h
  obtain ⟨ac, cc, hvc⟩ := own_shape h.cells
  obtain ⟨n, hn⟩ : ∃ n, n = A.cells.length := ⟨_, rfl⟩
  have hfit := h.fit
  have hs : n ≤ 1048576 := by omega
  have HN : Hid (n = A.cells.length ∧ vc = .slice ac A.cells.length cc) := ⟨hn, hvc⟩
  rw [← hn]
  clear h hvc hn hfit
  go_enter Try.func14, Try.ntmps14
  go_wp2_with fail
  go_loopw [3, 4] (fun s i wr => ∃ k : Nat, k ≤ n ∧ i = .int .i64 k ∧ wr.ownsRow w.heap.size 2 1 s k ((A.cells.take k).map (Value.int .i64)) ∧ Keeps None w wr) (fun _ i _ => n - (intOf i).toNat)
  case atStart => exact ⟨0, Nat.zero_le _, rfl, World.ownsRow_nil _ _ _ _, Keeps.refl _ _⟩
  case round =>
    obtain ⟨k, hk, rfl, hrow, hkp⟩ := hrel
    obtain ⟨sa, cs, rfl⟩ := own_shape hrow
    have hI := HH.out.kept hkp (fun _ _ f => f)
    have c1 := hI.c1
    rw [HN.out.2, ← HN.out.1] at c1
    by_cases hkn : k < n
    · obtain ⟨x, hx⟩ : ∃ x, A.cells[k]? = some x := ⟨A.cells[k]'(by have := HN.out.1; omega), by simp⟩
      have hcl := hI.cells
      rw [HN.out.2, ← HN.out.1] at hcl
      obtain ⟨g, rfl, hc⟩ := row_at hcl (by omega)
      have y0 := hc k _ (by rw [List.getElem?_map, hx]; rfl)
      have i1 : (k : Int) < (n : Int) := by omega
      obtain ⟨g2, cp, w2, hr, ho, hk2, hm⟩ := nums_more (.slice sa k cs) k (A.cells.take k) wr (own_base hrow (fun _ _ => Nat.zero_le _)) x (by omega)
      have HR : Hid (w2.ownsRow w.heap.size 2 1 (.slice (some ⟨g2, 0, none⟩) (k + 1) cp) (k + 1) ((A.cells.take (k + 1)).map (Value.int .i64)) ∧ Keeps None w w2) := by
        rw [List.take_add_one, hx]
        refine ⟨own_base ho (fun i e => ?_), hkp.trans hk2 (fun i e hi => by have := own_low hrow e; omega)⟩
        simp [Value.ownBlock] at e
        subst e
        rcases hm with e | e
        · exact own_low hrow e
        · have := hkp.size; omega
      clear hI hcl hc hx hrow hkp ho hk2 hm HH
      go_wp2_with (at_builtin; refine wpList_append_run rfl (.tmp 14) (.tmp 22) 31 31 rfl rfl rfl hr ?_)
      exact ⟨⟨k + 1, by omega, by go_num, HR.out⟩, by simp [intOf]; omega⟩
    · have hkn2 : k = n := by omega
      subst hkn2
      have HR : Hid (wr.ownsRow w.heap.size 2 1 (.slice sa k cs) k (A.cells.map (Value.int .i64)) ∧ Keeps None w wr) := by
        rw [List.take_of_length_le (by have := HN.out.1; omega)] at hrow
        exact ⟨hrow, hkp⟩
      clear hI hrow hkp HH
      go_wp2
      go_ret
      exact ⟨_, _, rfl, HR.out⟩
theorem logVals_more {l : List Acc} {k : Nat} {x : Acc} (h : l[k]? = some x) : logVals (l.take (k + 1)) = logVals (l.take k) ++ x.vals := by
  rw [List.take_add_one, h]; simp [logVals]
theorem rlog_ok (p : Nat) (vc vl : Value) (A : Ar) (w : World) (h : IsRef w p vc vl A) (hs : A.log.length ≤ 4000000) :
    Calls Try.prog 17 #[.pointer (some ⟨p, 0, none⟩)] w fun e w' => ∃ ao c, e = .returned (.slice ao A.log.length c) ∧ w'.ownsRow w.heap.size 89 6 (.slice ao A.log.length c) A.log.length (logVals A.log) ∧ Keeps None w w' := by
  have HH : Hid (IsRef w p vc vl A) := h
  obtain ⟨ac, cc, hvc⟩ := own_shape h.log
  obtain ⟨n, hn⟩ : ∃ n, n = A.log.length := ⟨_, rfl⟩
  have HN : Hid (n = A.log.length ∧ vl = .slice ac A.log.length cc) := ⟨hn, hvc⟩
  rw [← hn] at hs ⊢
  clear h hvc hn
  go_enter Try.func17, Try.ntmps17
  go_wp2_with fail
  go_loopw [3, 4] (fun s i wr => ∃ k : Nat, k ≤ n ∧ i = .int .i64 k ∧ wr.ownsRow w.heap.size 89 6 s k (logVals (A.log.take k)) ∧ Keeps None w wr) (fun _ i _ => n - (intOf i).toNat)
  case atStart => exact ⟨0, Nat.zero_le _, rfl, World.ownsRow_nil _ _ _ _, Keeps.refl _ _⟩
  case round =>
    obtain ⟨k, hk, rfl, hrow, hkp⟩ := hrel
    obtain ⟨sa, cs, rfl⟩ := own_shape hrow
    have hI := HH.out.kept hkp (fun _ _ f => f)
    have c1 := hI.c4
    rw [HN.out.2, ← HN.out.1] at c1
    by_cases hkn : k < n
    · obtain ⟨x, hx⟩ : ∃ x, A.log[k]? = some x := ⟨A.log[k]'(by have := HN.out.1; omega), by simp⟩
      have hcl := hI.log
      rw [HN.out.2, ← HN.out.1] at hcl
      obtain ⟨g, rfl, hc⟩ := row_at hcl (by omega)
      have y0 := hc (k * 6) _ (logVals_at A.log k x hx 0 _ rfl)
      have y1 := hc (k * 6 + 1) _ (logVals_at A.log k x hx 1 _ rfl)
      have y2 := hc (k * 6 + 2) _ (logVals_at A.log k x hx 2 _ rfl)
      have y3 := hc (k * 6 + 3) _ (logVals_at A.log k x hx 3 _ rfl)
      have y4 := hc (k * 6 + 4) _ (logVals_at A.log k x hx 4 _ rfl)
      have y5 := hc (k * 6 + 5) _ (logVals_at A.log k x hx 5 _ rfl)
      have i1 : (k : Int) < (n : Int) := by omega
      obtain ⟨g2, cp, w2, hr, ho, hk2, hm⟩ := accs_more (.slice sa k cs) k (logVals (A.log.take k)) wr (own_base hrow (fun _ _ => Nat.zero_le _)) #[.int .i64 x.who, .int .i64 x.kind, .int .i64 x.addr, .int .i64 x.a, .int .i64 x.b, .bool x.ok] rfl (fun u hu => by simp at hu; rcases hu with rfl | rfl | rfl | rfl | rfl | rfl <;> rfl) (by omega)
      have HR : Hid (w2.ownsRow w.heap.size 89 6 (.slice (some ⟨g2, 0, none⟩) (k + 1) cp) (k + 1) (logVals (A.log.take (k + 1))) ∧ Keeps None w w2) := by
        rw [logVals_more hx]
        refine ⟨own_base ho (fun i e => ?_), hkp.trans hk2 (fun i e hi => by have := own_low hrow e; omega)⟩
        simp [Value.ownBlock] at e
        subst e
        rcases hm with e | e
        · exact own_low hrow e
        · have := hkp.size; omega
      clear hI hcl hc hx hrow hkp ho hk2 hm HH
      go_wp2_with (at_builtin; refine wpList_append_run rfl (.tmp 14) (.tmp 22) 32 32 rfl rfl rfl hr ?_)
      exact ⟨⟨k + 1, by omega, by go_num, HR.out⟩, by simp [intOf]; omega⟩
    · have hkn2 : k = n := by omega
      subst hkn2
      have HR : Hid (wr.ownsRow w.heap.size 89 6 (.slice sa k cs) k (logVals A.log) ∧ Keeps None w wr) := by
        rw [List.take_of_length_le (by have := HN.out.1; omega)] at hrow
        exact ⟨hrow, hkp⟩
      clear hI hrow hkp HH
      go_wp2
      go_ret
      exact ⟨_, _, rfl, HR.out⟩
theorem IsRef.watch {w : World} {p : Nat} {vc vl : Value} {A : Ar} (h : IsRef w p vc vl A) (t : Bool) : IsRef (w.setCell ⟨p, 2, none⟩ (.bool t)) p vc vl { A with on := t } := by
  have hkp : Keeps (· = p) w (w.setCell ⟨p, 2, none⟩ (.bool t)) := Keeps.setCell (S := (· = p)) w (a := ⟨p, 2, none⟩) rfl _
  exact ⟨(setCell_block h.blk _).trans rfl, hkp.own h.cells (fun k e e2 => h.ncp (e2 ▸ e)), hkp.own h.log (fun k e e2 => h.nlp (e2 ▸ e)), h.fit⟩
def fineW (n : Int) : Bool := decide (0 ≤ n) && decide (n ≤ 1048576)
def szW (n : Int) : Nat := if fineW n then n.toNat else 0
def errW (n : Int) : Int := if fineW n then 0 else 3

theorem rnew_w (n : Int) (w : World) : Calls Try.prog 5 #[.int .i64 n] w fun e w' => e = .returned (.tuple #[.pointer (some ⟨w.heap.size, 0, none⟩), .int .i64 (errW n)]) ∧
    IsRef w' w.heap.size (.slice none 0 0) (.slice none 0 0) (Ar.new (szW n)) ∧ Keeps None w w' := by
  by_cases h0 : n < 0
  · have e1 : fineW n = false := by simp [fineW]; omega
    go_enter Try.func5, Try.ntmps5
    go_wp2
    go_ret2
    exact ⟨by simp [errW, e1], ⟨by simpa [szW, e1, Ar.new] using new_at w _ _ rfl, World.ownsRow_nil _ _ _ _, World.ownsRow_nil _ _ _ _, by simp [szW, e1, Ar.new]⟩, (Keeps.refl _ _).andAlloc _⟩
  by_cases h1 : 1048576 < n
  · have e1 : fineW n = false := by simp [fineW]; omega
    go_enter Try.func5, Try.ntmps5
    go_wp2
    go_ret2
    exact ⟨by simp [errW, e1], ⟨by simpa [szW, e1, Ar.new] using new_at w _ _ rfl, World.ownsRow_nil _ _ _ _, World.ownsRow_nil _ _ _ _, by simp [szW, e1, Ar.new]⟩, (Keeps.refl _ _).andAlloc _⟩
  · have e1 : fineW n = true := by simp [fineW]; omega
    obtain ⟨k, rfl⟩ : ∃ k : Nat, n = k := ⟨n.toNat, by omega⟩
    go_enter Try.func5, Try.ntmps5
    go_wp2
    go_ret2
    exact ⟨by simp [errW, e1], ⟨by simpa [szW, e1, Ar.new] using new_at w _ _ rfl, World.ownsRow_nil _ _ _ _, World.ownsRow_nil _ _ _ _, by simp [szW, e1, Ar.new]; omega⟩, (Keeps.refl _ _).andAlloc _⟩

def RfF (w : World) (p : Nat) (F : Nat → Prop) (A : Ar) : Prop := ∃ vc vl, IsRef w p vc vl A ∧ F = Foot p vc vl
def RR (w w' : World) (p : Nat) (F : Nat → Prop) (A : Ar) : Prop := ∃ F', RfF w' p F' A ∧ Keeps F w w' ∧ ∀ k, F' k → F k ∨ w.heap.size ≤ k
theorem RfF.lt {w : World} {p : Nat} {F : Nat → Prop} {A : Ar} (h : RfF w p F A) {k : Nat} (hk : F k) : k < w.heap.size := by
  obtain ⟨vc, vl, h, rfl⟩ := h
  exact h.foot_lt hk
theorem RfF.kept {w w' : World} {p : Nat} {F S : Nat → Prop} {A : Ar} (h : RfF w p F A) (hk : Keeps S w w') (hS : ∀ k, F k → ¬ S k) : RfF w' p F A := by
  obtain ⟨vc, vl, h, rfl⟩ := h
  exact ⟨vc, vl, h.kept hk hS, rfl⟩
theorem RR.of {w w' : World} {p : Nat} {vc vl : Value} {A : Ar} (h : RAfter w w' p vc vl A) : RR w w' p (Foot p vc vl) A := by
  obtain ⟨vc', vl', h', hk, mc, ml⟩ := h
  refine ⟨_, ⟨vc', vl', h', rfl⟩, hk, ?_⟩
  intro k hk
  rcases hk with rfl | hk | hk
  · exact .inl (.inl rfl)
  · rcases mc with e | ⟨g, e, hg⟩
    · exact .inl (.inr (.inl (e ▸ hk)))
    · rw [e] at hk; injection hk with hk; exact .inr (by omega)
  · rcases ml with e | ⟨g, e, hg⟩
    · exact .inl (.inr (.inr (e ▸ hk)))
    · rw [e] at hk; injection hk with hk; exact .inr (by omega)
theorem RR.trans {w w1 w2 : World} {p : Nat} {F F1 : Nat → Prop} {B : Ar} (hk : Keeps F w w1) (hf : ∀ k, F1 k → F k ∨ w.heap.size ≤ k) (h2 : RR w1 w2 p F1 B) : RR w w2 p F B := by
  obtain ⟨F2, g, k, m⟩ := h2
  have := hk.size
  exact ⟨F2, g, hk.trans k (fun i f hi => by rcases hf i f with f | f; exact f; omega), fun k f => by
    rcases m k f with f | f
    · exact hf k f
    · exact .inr (by omega)⟩
theorem RR.out {w w1 w4 w' : World} {p g : Nat} {F : Nat → Prop} {B : Ar} (h : RR w1 w4 p F B) (h01 : Keeps None w w1) (hg : w.heap.size ≤ g) (hg1 : g < w1.heap.size) (hF : ¬ F g) (hk : Keeps (· = g) w4 w') : RR w w' p F B := by
  obtain ⟨F', h1, h2, h3⟩ := h
  have := h01.size
  refine ⟨F', h1.kept hk (fun k f e => ?_), ((h01.mono (fun _ f _ => f.elim)).trans h2 (fun _ f _ => f)).trans hk (fun i e hi => by omega), fun k f => ?_⟩
  · subst e
    rcases h3 _ f with f | f
    · exact hF f
    · omega
  · rcases h3 k f with f | f
    · exact .inl f
    · exact .inr (by omega)
end Go.Proofs.Ytaipeclmfgdegaa
