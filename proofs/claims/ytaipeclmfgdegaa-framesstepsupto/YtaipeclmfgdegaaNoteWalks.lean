import Derived.Test.YtaipeclmfgdegaaExtentWalks
import Derived.Test.YtaipeclmfgdegaaArenaRep
/-! What is watched is written down. -/
namespace Go.Proofs.Ytaipeclmfgdegaa
open Go.RowKit Go.HeapKit

def Acc.value (x : Acc) : Value := .agg #[.int .i64 x.who, .int .i64 x.kind, .int .i64 x.addr, .int .i64 x.a, .int .i64 x.b, .bool x.ok]

theorem Try.infoAcc : (Try.prog.info? 89).map (fun i => (i.zero, i.size, i.bytes)) = some (some (.agg #[.int .i64 0, .int .i64 0, .int .i64 0, .int .i64 0, .int .i64 0, .bool false]), 6, 48) := by kernel_rfl
theorem Try.infoI64 : (Try.prog.info? 2).map (fun i => (i.zero, i.size, i.bytes)) = some (some (.int .i64 0), 1, 8) := by kernel_rfl

theorem new_at (w : World) (o : Obj) (n : Nat) (hn : w.heap.size = n) : (w.alloc o).heap[n]? = some o := by subst hn; exact heap_alloc_new w o
/-- The append of 'note': what was watched, behind the log. -/
theorem log_append (p : Nat) (vc vl : Value) (A : Ar) (x : Acc) (g ty : Nat) (w : World) (h : IsArena w p vc vl A) (hlog : A.log.length < 1000000000000)
    (hg : w.heap[g]? = some (.cells #[.int .i64 x.who, .int .i64 x.kind, .int .i64 x.addr, .int .i64 x.a, .int .i64 x.b, .bool x.ok] 89 (0, 0))) :
    ∃ b cap w', (Builtin.append_ #[32, 32] ty #[vl, .slice (some ⟨g, 0, none⟩) 1 1]).run Try.prog w = .ok (.slice (some ⟨b, 0, none⟩) (A.log.length + 1) cap) w' ∧
      w'.ownsRow 0 89 6 (.slice (some ⟨b, 0, none⟩) (A.log.length + 1) cap) (A.log.length + 1) (logVals A.log ++ x.vals) ∧ w.grownBy w' vl.ownBlock ∧ Moved w vl (.slice (some ⟨b, 0, none⟩) (A.log.length + 1) cap) := by
  obtain ⟨i0, hi, hz0, hz1, hz2⟩ := info_parts Try.infoAcc
  obtain ⟨v', w', hr, ho, hgr, hm, -⟩ := run_append_moved (P := Try.prog) w 0 32 ty 89 i0 _ 6 48 Try.underlying32 hi hz0 hz1 hz2 rfl (by decide) vl A.log.length (logVals A.log) h.log
    ⟨g, 0, none⟩ 1 1 x.vals rfl (by
      intro j u hu
      rw [show (⟨g, 0, none⟩ : Addr).add j = ⟨g, j, none⟩ by unfold Addr.add; split <;> simp_all, cell_of_block hg]
      simpa [Acc.vals] using hu) (by
      intro u hu
      simp [Acc.vals] at hu
      rcases hu with rfl | rfl | rfl | rfl | rfl | rfl <;> rfl) (by unfold maxLen; omega) (by omega) (Nat.zero_le _)
  rcases ho.2 with ⟨_, h0⟩ | ⟨b, cap, cur, rfl, _⟩
  · omega
  · exact ⟨b, cap, w', hr, ho, hgr, hm⟩

theorem note_off (p : Nat) (vc vl : Value) (A : Ar) (u k d a b : Int) (t : Bool) (w : World) (h : IsArena w p vc vl A) (hon : A.on = false) :
    Calls Try.prog 34 #[.pointer (some ⟨p, 0, none⟩), .agg #[.int .i64 u, .int .i64 k, .int .i64 d, .int .i64 a, .int .i64 b, .bool t]] w fun e w' => e = .returned (.tuple #[]) ∧
      w' = w.alloc (.cells #[.int .i64 u, .int .i64 k, .int .i64 d, .int .i64 a, .int .i64 b, .bool t] 89) := by
  have c3 := (h.alloc (.cells #[.int .i64 u, .int .i64 k, .int .i64 d, .int .i64 a, .int .i64 b, .bool t] 89)).c3
  rw [hon] at c3
  go_enter Try.func34, Try.ntmps34
  go_wp2
  go_end0
  exact ⟨rfl, rfl⟩

set_option maxHeartbeats 1600000 in
theorem note_on (p : Nat) (vc vl : Value) (A : Ar) (u k d a b : Int) (t : Bool) (w : World) (h : IsArena w p vc vl A) (hon : A.on = true) (hlog : A.log.length < 1000000000000) :
    Calls Try.prog 34 #[.pointer (some ⟨p, 0, none⟩), .agg #[.int .i64 u, .int .i64 k, .int .i64 d, .int .i64 a, .int .i64 b, .bool t]] w fun e w' => e = .returned (.tuple #[]) ∧
      ∃ vl', IsArena w' p vc vl' { A with log := A.log ++ [⟨A.actor, k, d, a, b, t⟩] } ∧ Keeps (fun i => i = p ∨ vl.ownBlock = some i) w w' ∧ Moved w vl vl' := by
  have h1 := h.alloc (.cells #[.int .i64 u, .int .i64 k, .int .i64 d, .int .i64 a, .int .i64 b, .bool t] 89)
  have c3 := h1.c3
  rw [hon] at c3
  have c4 := h1.c4
  have h2 := h.alloc (.cells #[.int .i64 A.actor, .int .i64 k, .int .i64 d, .int .i64 a, .int .i64 b, .bool t] 89)
  have c5 := h2.c5
  have c6 := (h2.alloc (.cells #[.int .i64 A.actor, .int .i64 k, .int .i64 d, .int .i64 a, .int .i64 b, .bool t] 89)).c5
  have h3 := h2.drew.alloc (.cells #[.int .i64 A.actor, .int .i64 k, .int .i64 d, .int .i64 a, .int .i64 b, .bool t] 89)
  obtain ⟨g, cap, w1, hr, ho, hgr, hm⟩ := log_append p vc vl A ⟨A.actor, k, d, a, b, t⟩ (w.heap.size + 1) 32 _ h3 hlog (new_at _ _ _ (by simp))
  have hk1 : Keeps (fun i => vl.ownBlock = some i) w w1 := ((((Keeps.refl _ w).andAlloc _).andDrew).andAlloc _).andGrown hgr (fun k e => .inl e)
  have hL := h.logged hk1 (fun _ h => h) ho
  have d5 : w1.cell? ⟨p, 5, none⟩ = some vl := hk1.cell h.c5 h.nlp
  have f5 : w1.frozen? ⟨p, 5, none⟩ = false := (World.frozen?_of_block (hk1.block p h.lt h.nlp)).trans (h.free 5)
  have HK : Hid (Keeps (fun i => i = p ∨ vl.ownBlock = some i) w (w1.setCell ⟨p, 5, none⟩ (.slice (some ⟨g, 0, none⟩) (A.log.length + 1) cap))) :=
    (hk1.mono (fun _ h _ => .inr h)).trans (Keeps.setCell (S := fun i => i = p ∨ vl.ownBlock = some i) w1 (a := ⟨p, 5, none⟩) (.inl rfl) _) (fun _ h _ => h)
  have HM : Hid (Moved w vl (.slice (some ⟨g, 0, none⟩) (A.log.length + 1) cap)) := by
    rcases hm with hm | ⟨g', e, hg⟩
    · exact .inl hm
    · exact .inr ⟨g', e, by simp at hg; omega⟩
  have HL : Hid (IsArena (w1.setCell ⟨p, 5, none⟩ (.slice (some ⟨g, 0, none⟩) (A.log.length + 1) cap)) p vc (.slice (some ⟨g, 0, none⟩) (A.log.length + 1) cap) { A with log := A.log ++ [⟨A.actor, k, d, a, b, t⟩] }) := hL
  clear hk1 hL hm ho hgr h3 h1
  go_enter Try.func34, Try.ntmps34
  go_wp2
  go_region_law (refine step_append_run rfl (.tmp 17) (.tmp 19) 32 32 rfl (by simp [Act.eval]) (by simp [Act.eval]) hr ?_)
  all_goals go_end0
  all_goals exact ⟨rfl, _, HL.out, HK.out, HM.out⟩

/-- What comes of an arena: its rows' blocks are the old ones or new; nothing else is touched. -/
def After (w w' : World) (p : Nat) (vc vl : Value) (A : Ar) : Prop := ∃ vc' vl', IsArena w' p vc' vl' A ∧ Keeps (Foot p vc vl) w w' ∧ Moved w vc vc' ∧ Moved w vl vl'

theorem After.trans {w w1 w2 : World} {p : Nat} {vc vl vc1 vl1 : Value} {A : Ar} (hk : Keeps (Foot p vc vl) w w1) (mc : Moved w vc vc1) (ml : Moved w vl vl1) (h : After w1 w2 p vc1 vl1 A) : After w w2 p vc vl A := by
  obtain ⟨vc', vl', hA, hk2, mc2, ml2⟩ := h
  refine ⟨vc', vl', hA, hk.trans hk2 ?_, mc.trans mc2 hk.size, ml.trans ml2 hk.size⟩
  intro i hi hlt
  rcases hi with rfl | hi | hi
  · exact .inl rfl
  · rcases mc with mc | ⟨g, mc, hg⟩
    · exact .inr (.inl (mc ▸ hi))
    · rw [mc] at hi; injection hi with hi; omega
  · rcases ml with ml | ⟨g, ml, hg⟩
    · exact .inr (.inr (ml ▸ hi))
    · rw [ml] at hi; injection hi with hi; omega
theorem After.same {w : World} {p : Nat} {vc vl : Value} {A : Ar} (h : IsArena w p vc vl A) : After w w p vc vl A := ⟨vc, vl, h, Keeps.refl _ _, .refl _ _, .refl _ _⟩

theorem note_any (p : Nat) (vc vl : Value) (A : Ar) (u k d a b : Int) (t : Bool) (w : World) (h : IsArena w p vc vl A) (hlog : A.log.length < 1000000000000) :
    Calls Try.prog 34 #[.pointer (some ⟨p, 0, none⟩), .agg #[.int .i64 u, .int .i64 k, .int .i64 d, .int .i64 a, .int .i64 b, .bool t]] w fun e w' => e = .returned (.tuple #[]) ∧
      After w w' p vc vl (A.noted ⟨u, k, d, a, b, t⟩) := by
  cases hon : A.on with
  | false =>
    refine (note_off p vc vl A u k d a b t w h hon).mono ?_
    rintro e w' ⟨rfl, rfl⟩
    refine ⟨rfl, vc, vl, ?_, (Keeps.refl _ _).andAlloc _, .refl _ _, .refl _ _⟩
    simpa [Ar.noted, hon] using h.alloc _
  | true =>
    refine (note_on p vc vl A u k d a b t w h hon hlog).mono ?_
    rintro e w' ⟨rfl, vl', hA, hk, hm⟩
    refine ⟨rfl, vc, vl', ?_, hk.mono (fun i hi _ => ?_), .refl _ _, hm⟩
    · simpa [Ar.noted, hon] using hA
    · rcases hi with rfl | hi
      · exact .inl rfl
      · exact .inr (.inr hi)
end Go.Proofs.Ytaipeclmfgdegaa
