import Derived.Test.YtemmkgnbngeiaaaDqStart
import Derived.Test.YtemmkgnbngeiaaaDqAny
/-! What DequeStack holds between two calls: the arena with its deque, the list, the deque's place. -/
namespace Go.Proofs.Ytemmkgnbngeiaaa
open Go.RowKit Go.HeapKit Go.IntWalk Go.PlainOps

structure Sk (w wr : World) (p gd most : Nat) (lv : Value) (r l : List Int) (F : Nat → Prop) (B : Ar) (tt aa cc : Nat) : Prop where
  kp : Keeps (fun i => w.heap.size ≤ i) w wr
  ar : ArF wr p F B
  dq : Dq B most l tt aa cc
  fits : B.cells.length ≤ B.size
  fo : ∀ k, F k → w.heap.size ≤ k
  row : wr.ownsRow 0 2 1 lv r.length (r.map (Value.int .i64))
  ro : ∀ k, lv.ownBlock = some k → w.heap.size ≤ k ∧ ¬ F k ∧ k ≠ gd
  db : wr.heap[gd]? = some (.cells #[.int .i64 0, .int .i64 most] 32 (0, 0))
  dn : ¬ F gd
section
variable {w wr wy : World} {p gd most : Nat} {lv : Value} {r l : List Int} {F : Nat → Prop} {B : Ar} {tt aa cc : Nat}
theorem Sk.lt (h : Sk w wr p gd most lv r l F B tt aa cc) : gd < wr.heap.size := (Array.getElem?_eq_some_iff.1 h.db).1
theorem Sk.kept (h : Sk w wr p gd most lv r l F B tt aa cc) (hk : Keeps None wr wy) : Sk w wy p gd most lv r l F B tt aa cc :=
  ⟨h.kp.trans hk (fun _ f _ => f.elim), h.ar.kept hk (fun _ _ f => f), h.dq, h.fits, h.fo, hk.own h.row (fun _ _ f => f), h.ro, (hk.block gd h.lt (fun f => f)).trans h.db, h.dn⟩
theorem Sk.acc (h : Sk w wr p gd most lv r l F B tt aa cc) {B' : Ar} {l' : List Int} {t' a' c' : Nat} (h2 : AA wr wy p F B') (hd : Dq B' most l' t' a' c') (hf : B'.cells.length ≤ B'.size) : ∃ F', Sk w wy p gd most lv r l' F' B' t' a' c' := by
  obtain ⟨F', g, hk, hn⟩ := h2
  have hlt := h.lt
  have hs := h.kp.size
  refine ⟨F', h.kp.trans hk (fun i f _ => h.fo i f), g, hd, hf, fun k f => ?_, hk.own h.row (fun k e f => (h.ro k e).2.1 f), fun k e => ⟨(h.ro k e).1, fun f => ?_, (h.ro k e).2.2⟩, (hk.block gd hlt h.dn).trans h.db, fun f => ?_⟩
  · rcases hn k f with f | f
    · exact h.fo k f
    · omega
  · rcases hn k f with f | f
    · exact (h.ro k e).2.1 f
    · have := own_lt h.row e; omega
  · rcases hn gd f with f | f
    · exact h.dn f
    · omega
theorem Sk.shape (h : Sk w wr p gd most lv r l F B tt aa cc) : ∃ lo lc, lv = .slice lo r.length lc := own_shape h.row
/-- 'append(l, v)'. -/
theorem Sk.append (h : Sk w wr p gd most lv r l F B tt aa cc) (v : Int) (hr : r.length ≤ 4096) :
    ∃ lv' wy, (Builtin.append_ #[22, 22] 22 #[lv, .slice (some ⟨wr.heap.size, 0, none⟩) 1 1]).run Try.prog (wr.alloc (.cells #[.int .i64 v] 2)) = .ok lv' wy ∧ Sk w wy p gd most lv' (r ++ [v]) l F B tt aa cc ∧ Keeps (fun k => lv.ownBlock = some k) wr wy := by
  obtain ⟨i0, hi0, hz0, hz1, hz2⟩ := info_parts Try.infoI64
  have hka := Keeps.alloc None wr (.cells #[.int .i64 v] 2)
  have hs := h.kp.size
  have hlt := h.lt
  obtain ⟨lv', wy, hrun, ho, hg, hm, -⟩ := run_append_moved (P := Try.prog) (wr.alloc (.cells #[.int .i64 v] 2)) 0 22 22 2 i0 _ 1 8 Try.underlying22 hi0 hz0 hz1 hz2 rfl (by decide) lv r.length _ (hka.own h.row (fun _ _ f => f))
    ⟨wr.heap.size, 0, none⟩ 1 1 [.int .i64 v] rfl (by
      intro j u hu
      rw [show (⟨wr.heap.size, 0, none⟩ : Addr).add j = ⟨wr.heap.size, j, none⟩ by unfold Addr.add; split <;> simp_all, cell_of_block (new_at wr _ _ rfl)]
      simpa using hu) (by intro u hu; simp at hu; subst hu; rfl) (by unfold maxLen; omega) (by omega) (Nat.zero_le _)
  have hk : Keeps (fun k => lv.ownBlock = some k) wr wy := (hka.mono (fun _ f _ => f.elim)).andGrown hg (fun k e => .inl e)
  refine ⟨lv', wy, hrun, ⟨h.kp.trans hk (fun i e _ => (h.ro i e).1), h.ar.kept hk (fun k f e => (h.ro k e).2.1 f), h.dq, h.fits, h.fo, by simpa using ho, fun k e => ?_, (hk.block gd hlt (fun e => (h.ro gd e).2.2 rfl)).trans h.db, h.dn⟩, hk⟩
  rcases hm with hm | ⟨g, hm, hgg⟩
  · exact h.ro k (hm ▸ e)
  · rw [e] at hm
    injection hm with hm
    simp at hgg
    exact ⟨by omega, fun f => by have := h.ar.lt f; omega, by omega⟩
/-- 'l[:n-1]'. -/
theorem Sk.init {lo : Option Addr} {lc : Nat} {x : Int} (h : Sk w wr p gd most (.slice lo (r ++ [x]).length lc) (r ++ [x]) l F B tt aa cc) : Sk w wr p gd most (.slice lo r.length lc) r l F B tt aa cc := by
  refine ⟨h.kp, h.ar, h.dq, h.fits, h.fo, ?_, fun k e => h.ro k (by cases lo <;> exact e), h.db, h.dn⟩
  rcases h.row.2 with ⟨_, h0⟩ | ⟨g, cap, cur, he, hb, hg, hn, hm, hcs, ht⟩
  · simp at h0
  · injection he with e1 e2 e3
    subst e1 e3
    simp at hn
    refine ⟨by simp, .inr ⟨g, lc, cur, rfl, hb, hg, by omega, hm, hcs, ?_⟩⟩
    have := congrArg (List.take r.length) ht
    rw [List.take_take] at this
    simpa [Nat.min_eq_left (Nat.le_succ _)] using this
/-- A list of its own in place of the old one. -/
theorem Sk.fresh (h : Sk w wr p gd most lv r l F B tt aa cc) {v' : Value} {r' : List Int} (ho : wy.ownsRow 0 2 1 v' r'.length (r'.map (Value.int .i64))) (hk : Keeps None wr wy) (hv : ∀ k, v'.ownBlock = some k → wr.heap.size ≤ k) : Sk w wy p gd most v' r' l F B tt aa cc := by
  have h' := h.kept hk
  have hs := h.kp.size
  have hlt := h.lt
  exact ⟨h'.kp, h'.ar, h'.dq, h'.fits, h'.fo, ho, fun k e => ⟨by have := hv k e; omega, fun f => by have := hv k e; have := h.ar.lt f; omega, by have := hv k e; omega⟩, h'.db, h'.dn⟩
theorem Sk.at (h : Sk w wr p gd most lv r l F B tt aa cc) (hr : 0 < r.length) : ∃ g lc, lv = .slice (some ⟨g, 0, none⟩) r.length lc ∧ r.length ≤ lc ∧ ∀ j, j < r.length → wr.cell? ⟨g, j, none⟩ = some (.int .i64 (r.getD j 0)) := by
  rcases h.row.2 with ⟨_, h0⟩ | ⟨g, cap, cur, he, hb, hg, hn, hm, hcs, ht⟩
  · omega
  · subst he
    refine ⟨g, cap, rfl, hn, fun j hj => ?_⟩
    have hu := h.row.cells (g := g) rfl j (.int .i64 (r.getD j 0)) (by simp [List.getD, hj])
    rwa [show (⟨g, 0, none⟩ : Addr).add j = ⟨g, j, none⟩ by unfold Addr.add; split <;> simp_all] at hu
end
theorem lawcaps_ok (f m : Int) (w : World) (h : CapOK f m) : Calls Try.prog 20 #[.int .i64 f, .int .i64 m] w fun e w' => e = .returned (.bool true) ∧ w' = w := by
  obtain ⟨h1, h2, h3⟩ := h
  go_enter Try.func20, Try.ntmps20
  go_wp2
  go_ret
  exact ⟨rfl, rfl⟩
theorem lawcaps_bad (f m : Int) (w : World) (h : ¬ CapOK f m) : Calls Try.prog 20 #[.int .i64 f, .int .i64 m] w fun e w' => e = .returned (.bool false) ∧ w' = w := by
  unfold CapOK at h
  by_cases h1 : 1 ≤ f
  · by_cases h2 : f ≤ m
    · have h3 : ¬ m ≤ 4096 := fun h3 => h ⟨h1, h2, h3⟩
      clear h
      go_enter Try.func20, Try.ntmps20
      go_wp2
      go_ret
      exact ⟨rfl, rfl⟩
    · clear h
      go_enter Try.func20, Try.ntmps20
      go_wp2
      go_ret
      exact ⟨rfl, rfl⟩
  · clear h
    go_enter Try.func20, Try.ntmps20
    go_wp2
    go_ret
    exact ⟨rfl, rfl⟩
set_option maxHeartbeats 1600000 in
set_option maxRecDepth 100000 in
theorem stack_bad (f m : Int) (ao : Option Addr) (len cap : Nat) (w : World) (h : ¬ CapOK f m) : Calls Try.prog 4 #[.int .i64 f, .int .i64 m, .slice ao len cap] w fun e w' => e = .returned (.bool true) ∧ Below w.heap.size w w' := by
  have hc := lawcaps_bad f m w h
  have hn := fun w => dnew_nil f m w
  go_enter Try.func4, Try.ntmps4
  go_wp2_with fail
  refine hc.mono ?_
  rintro e w' ⟨rfl, hw⟩
  have hw2 := hw.symm
  subst hw2
  clear hw hc
  go_wp2_with fail
  refine (hn _).mono ?_
  rintro e w2 ⟨rfl, hk⟩
  have HK : Hid _ := hk
  clear hk hn
  go_wp2_with fail
  go_ret
  exact ⟨rfl, (HK.out.andAlloc _).below _ (Nat.le_refl _) (fun _ f => f.elim)⟩
end Go.Proofs.Ytemmkgnbngeiaaa
