import Derived.Test.YtaeooljfilkaeaaPkAA
import Derived.Deep.RegionHeld3
import Derived.Deep.DeepCutAuto
import Derived.Deep.QuietTactic
import Derived.BigQuiet
import Derived.WalkKit
import Derived.Test.YtaeooljfilkaeaaProg
import Derived.WalkSpells
import Derived.WalkLawsBesides
/-! What an arena tells: Cells, Log, Size, Mark; Watch, Who. -/
namespace Go.Proofs.Ytaeooljfilkaeaa
open Go.RowKit Go.HeapKit

theorem cells_nil (w : World) : Calls Try.prog 50 #[.pointer none] w fun e w' => e = .returned (.slice none 0 0) ∧ w' = w := by
  go_enter Try.func50, Try.ntmps50
  go_wp2
  go_ret
  exact ⟨rfl, rfl⟩
theorem log_nil (w : World) : Calls Try.prog 30 #[.pointer none] w fun e w' => e = .returned (.slice none 0 0) ∧ w' = w := by
  go_enter Try.func30, Try.ntmps30
  go_wp2
  go_ret
  exact ⟨rfl, rfl⟩

theorem own_shape {w : World} {base : Nat} {e : TypeId} {size : Nat} {v : Value} {n : Nat} {xs : List Value} (h : w.ownsRow base e size v n xs) : ∃ ao cap, v = .slice ao n cap := by
  rcases h.2 with ⟨rfl, rfl⟩ | ⟨g, cap, cur, rfl, _⟩
  · exact ⟨_, _, rfl⟩
  · exact ⟨_, _, rfl⟩

set_option maxRecDepth 100000 in
theorem cells_any (p : Nat) (vc vl : Value) (A : Ar) (w : World) (h : IsArena w p vc vl A) :
    Calls Try.prog 50 #[.pointer (some ⟨p, 0, none⟩)] w fun e w' => e = .returned (.slice (some ⟨w.heap.size, 0, none⟩) A.cells.length A.cells.length) ∧
      w'.heap[w.heap.size]? = some (.cells (A.cells.map (Value.int .i64)).toArray 2 (0, 0)) ∧ Keeps None w w' := by
  obtain ⟨i0, hi, hz0, hz1, hz2⟩ := info_parts Try.infoI64
  have hf := h.fit
  obtain ⟨M, -, hM, hmk⟩ := run_make_block (P := Try.prog) (w := w) 29 2 i0 _ 1 8 Try.underlying29 hi hz0 hz1 hz2 A.cells.length (by omega) (by omega)
  obtain ⟨w2, hr, hb, hgr⟩ := run_copy_all (P := Try.prog) (w := w.alloc (.cells M 2)) 29 29 3 2 1 Try.underlying29 (by rw [hi]; exact congrArg some hz1)
    w.heap.size A.cells.length A.cells.length _ 2 (new_at _ _ _ rfl) hM vc _ (h.alloc _).cells (fun u hu => by obtain ⟨x, _, rfl⟩ := List.mem_map.1 hu; rfl)
  have HK : Hid (Keeps None w w2) := ((Keeps.refl None w).andAlloc _).andGrown hgr (fun k e => .inr (by injection e with e; omega))
  have HB : Hid (w2.heap[w.heap.size]? = some (.cells (A.cells.map (Value.int .i64)).toArray 2 (0, 0))) := hb
  clear hb hgr hM hi hz0 hz1 hz2 i0
  have c2 := h.c2
  have d2 := (h.alloc (.cells M 2)).c2
  obtain ⟨ao, cap, rfl⟩ := own_shape h.cells
  go_enter Try.func50, Try.ntmps50
  go_wp2_with (at_builtin; (refine wpList_copy_run rfl (.tmp 12) (.tmp 16) 29 29 rfl rfl rfl hr ?_))
  go_ret
  exact ⟨rfl, HB.out, HK.out⟩

theorem oneCell_log (l : List Acc) : ∀ u ∈ logVals l, u.oneCell' = true := by
  intro u hu
  obtain ⟨x, _, hx⟩ := List.mem_flatMap.1 hu
  simp [Acc.vals] at hx
  rcases hx with rfl | rfl | rfl | rfl | rfl | rfl <;> rfl

set_option maxRecDepth 100000 in
theorem log_any (p : Nat) (vc vl : Value) (A : Ar) (w : World) (h : IsArena w p vc vl A) (hlog : A.log.length ≤ 1000000000000) :
    Calls Try.prog 30 #[.pointer (some ⟨p, 0, none⟩)] w fun e w' => e = .returned (.slice (some ⟨w.heap.size, 0, none⟩) A.log.length A.log.length) ∧
      w'.heap[w.heap.size]? = some (.cells (logVals A.log).toArray 166 (0, 0)) ∧ Keeps None w w' := by
  obtain ⟨i0, hi, hz0, hz1, hz2⟩ := info_parts Try.infoAcc
  obtain ⟨M, -, hM, hmk⟩ := run_make_block (P := Try.prog) (w := w) 30 166 i0 _ 6 48 Try.underlying30 hi hz0 hz1 hz2 A.log.length (by omega) (by omega)
  obtain ⟨w2, hr, hb, hgr⟩ := run_copy_all (P := Try.prog) (w := w.alloc (.cells M 166)) 30 30 3 166 6 Try.underlying30 (by rw [hi]; exact congrArg some hz1)
    w.heap.size A.log.length A.log.length _ 166 (new_at _ _ _ rfl) hM vl _ (h.alloc _).log (oneCell_log _)
  have HK : Hid (Keeps None w w2) := ((Keeps.refl None w).andAlloc _).andGrown hgr (fun k e => .inr (by injection e with e; omega))
  have HB : Hid (w2.heap[w.heap.size]? = some (.cells (logVals A.log).toArray 166 (0, 0))) := hb
  clear hb hgr hM hi hz0 hz1 hz2 i0
  have c2 := h.c5
  have d2 := (h.alloc (.cells M 166)).c5
  obtain ⟨ao, cap, rfl⟩ := own_shape h.log
  go_enter Try.func30, Try.ntmps30
  go_wp2_with (at_builtin; (refine wpList_copy_run rfl (.tmp 12) (.tmp 16) 30 30 rfl rfl rfl hr ?_))
  go_ret
  exact ⟨rfl, HB.out, HK.out⟩

theorem watch_nil (t : Bool) (w : World) : Calls Try.prog 26 #[.pointer none, .bool t] w fun e w' => e = .returned (.tuple #[]) ∧ w' = w := by
  go_enter Try.func26, Try.ntmps26
  go_wp2
  go_end0
  exact ⟨rfl, rfl⟩
theorem who_nil (n : Int) (w : World) : Calls Try.prog 48 #[.pointer none, .int .i64 n] w fun e w' => e = .returned (.tuple #[]) ∧ w' = w := by
  go_enter Try.func48, Try.ntmps48
  go_wp2
  go_end0
  exact ⟨rfl, rfl⟩

/-- A store into one of the struct's plain fields. -/
theorem IsArena.field {w : World} {p : Nat} {vc vl : Value} {A B : Ar} (h : IsArena w p vc vl A) (i : Nat) (v : Value) (hc : B.cells = A.cells) (hl : B.log = A.log) (hs : B.size = A.size)
    (hb : (#[.int .i64 A.size, .int .i64 A.cells.length, vc, .bool A.on, .int .i64 A.actor, vl] : Array Value).setIfInBounds i v = #[.int .i64 B.size, .int .i64 B.cells.length, vc, .bool B.on, .int .i64 B.actor, vl]) :
    IsArena (w.setCell ⟨p, i, none⟩ v) p vc vl B ∧ Keeps (Foot p vc vl) w (w.setCell ⟨p, i, none⟩ v) := by
  have hk : Keeps (· = p) w (w.setCell ⟨p, i, none⟩ v) := Keeps.setCell (S := (· = p)) w (a := ⟨p, i, none⟩) rfl _
  refine ⟨⟨(setCell_block h.blk v).trans (by rw [hb]), ?_, ?_, by rw [hc, hs]; exact h.fit⟩, hk.mono (fun i e _ => .inl e)⟩
  · rw [hc]
    exact hk.own h.cells (fun k e e2 => h.ncp (e2 ▸ e))
  · rw [hl]
    exact hk.own h.log (fun k e e2 => h.nlp (e2 ▸ e))
theorem watch_any (p : Nat) (vc vl : Value) (A : Ar) (t : Bool) (w : World) (h : IsArena w p vc vl A) :
    Calls Try.prog 26 #[.pointer (some ⟨p, 0, none⟩), .bool t] w fun e w' => e = .returned (.tuple #[]) ∧ IsArena w' p vc vl { A with on := t } ∧ Keeps (Foot p vc vl) w w' := by
  have c3 := h.c3
  have f3 := h.free 3
  have HF : Hid _ := h.field (B := { A with on := t }) 3 (.bool t) rfl rfl rfl rfl
  go_enter Try.func26, Try.ntmps26
  go_wp2
  go_end0
  exact ⟨rfl, HF.out⟩
theorem who_any (p : Nat) (vc vl : Value) (A : Ar) (n : Int) (w : World) (h : IsArena w p vc vl A) :
    Calls Try.prog 48 #[.pointer (some ⟨p, 0, none⟩), .int .i64 n] w fun e w' => e = .returned (.tuple #[]) ∧ IsArena w' p vc vl { A with actor := n } ∧ Keeps (Foot p vc vl) w w' := by
  have c4 := h.c4
  have f4 := h.free 4
  have HF : Hid _ := h.field (B := { A with actor := n }) 4 (.int .i64 n) rfl rfl rfl rfl
  go_enter Try.func48, Try.ntmps48
  go_wp2
  go_end0
  exact ⟨rfl, HF.out⟩
end Go.Proofs.Ytaeooljfilkaeaa
/-! What the statements of the deque begin with. -/
namespace Go.Proofs.Ytaeooljfilkaeaa
open Go.RowKit Go.HeapKit

/-- A slice of numbers that is only read. -/
def Ints (w : World) (ao : Option Addr) (zs : List Int) : Prop := 0 < zs.length → ∃ b off, ao = some ⟨b, off, none⟩ ∧ b < w.heap.size ∧ ∀ i, i < zs.length → w.cell? ⟨b, off + i, none⟩ = some (.int .i64 (zs.getD i 0))
theorem Ints.kept {w w' : World} {ao : Option Addr} {zs : List Int} (h : Ints w ao zs) (hk : Keeps None w w') : Ints w' ao zs := by
  intro hp
  obtain ⟨b, off, h1, h2, h3⟩ := h hp
  exact ⟨b, off, h1, Nat.lt_of_lt_of_le h2 hk.size, fun i hi => hk.cell (h3 i hi) (fun f => f)⟩
/-- An arena with all that it may touch. -/
def ArF (w : World) (p : Nat) (F : Nat → Prop) (A : Ar) : Prop := ∃ vc vl, IsArena w p vc vl A ∧ F = Foot p vc vl
def AA (w w' : World) (p : Nat) (F : Nat → Prop) (A : Ar) : Prop := ∃ F', ArF w' p F' A ∧ Keeps F w w' ∧ ∀ k, F' k → F k ∨ w.heap.size ≤ k
theorem ArF.lt {w : World} {p : Nat} {F : Nat → Prop} {A : Ar} (h : ArF w p F A) {k : Nat} (hk : F k) : k < w.heap.size := by
  obtain ⟨vc, vl, h, rfl⟩ := h
  exact h.foot_lt hk
theorem ArF.kept {w w' : World} {p : Nat} {F S : Nat → Prop} {A : Ar} (h : ArF w p F A) (hk : Keeps S w w') (hS : ∀ k, F k → ¬ S k) : ArF w' p F A := by
  obtain ⟨vc, vl, h, rfl⟩ := h
  exact ⟨vc, vl, h.kept hk hS, rfl⟩
theorem AA.of {w w' : World} {p : Nat} {vc vl : Value} {A : Ar} (h : After w w' p vc vl A) : AA w w' p (Foot p vc vl) A := by
  obtain ⟨vc', vl', h', hk, mc, ml⟩ := h
  refine ⟨_, ⟨vc', vl', h', rfl⟩, hk, ?_⟩
  intro k hk
  rcases hk with rfl | hk | hk
  · exact .inl (.inl rfl)
  · rcases mc with e | ⟨g, e, hg⟩
    · exact .inl (.inr (.inl (e ▸ hk)))
    · rw [e] at hk; injection hk with hk; exact .inr (by omega)
  · rcases ml with e | ⟨g, e, hg⟩
    · exact .inl (.inr (.inr (e ▸ hk)))
    · rw [e] at hk; injection hk with hk; exact .inr (by omega)
theorem AA.trans {w w1 w2 : World} {p : Nat} {F F1 : Nat → Prop} {B : Ar} (hk : Keeps F w w1) (hf : ∀ k, F1 k → F k ∨ w.heap.size ≤ k) (h2 : AA w1 w2 p F1 B) : AA w w2 p F B := by
  obtain ⟨F2, g, k, m⟩ := h2
  have := hk.size
  exact ⟨F2, g, hk.trans k (fun i f hi => by rcases hf i f with f | f; exact f; omega), fun k f => by
    rcases m k f with f | f
    · exact hf k f
    · exact .inr (by omega)⟩
/-- An arena that is new since w. -/
def NewA (w w' : World) (p : Nat) (A : Ar) : Prop := ∃ F, ArF w' p F A ∧ Keeps None w w' ∧ ∀ k, F k → w.heap.size ≤ k
theorem NewA.next {w w1 w2 : World} {p : Nat} {A B : Ar} (h : NewA w w1 p A) (h2 : ∀ F, ArF w1 p F A → AA w1 w2 p F B) : NewA w w2 p B := by
  obtain ⟨F, hF, hk, hf⟩ := h
  obtain ⟨F2, g, k, m⟩ := h2 F hF
  have := hk.size
  exact ⟨F2, g, hk.trans k (fun i f hi => by have := hf i f; omega), fun k f => by
    rcases m k f with f | f
    · exact hf k f
    · omega⟩
theorem NewA.step {w w1 w2 : World} {p : Nat} {F : Nat → Prop} {B : Ar} (hk : Keeps None w w1) (hf : ∀ k, F k → w.heap.size ≤ k) (h2 : AA w1 w2 p F B) : NewA w w2 p B := by
  obtain ⟨F2, g, k, m⟩ := h2
  have := hk.size
  exact ⟨F2, g, hk.trans k (fun i f hi => by have := hf i f; omega), fun k f => by
    rcases m k f with f | f
    · exact hf k f
    · omega⟩
theorem NewA.kept {w w1 w2 : World} {p : Nat} {A : Ar} (h : NewA w w1 p A) (hk : Keeps None w1 w2) : NewA w w2 p A := by
  obtain ⟨F, hF, h1, hf⟩ := h
  exact ⟨F, hF.kept hk (fun _ _ f => f), h1.trans hk (fun _ f _ => f), hf⟩
theorem NewA.keeps {w w' : World} {p : Nat} {A : Ar} (h : NewA w w' p A) : Keeps None w w' := h.choose_spec.2.1
theorem NewA.ar {w w' : World} {p : Nat} {A : Ar} (h : NewA w w' p A) : ∃ vc vl, IsArena w' p vc vl A := by
  obtain ⟨F, ⟨vc, vl, h, -⟩, -⟩ := h
  exact ⟨vc, vl, h⟩
theorem arf_store (p : Nat) (F : Nat → Prop) (A : Ar) (k : Nat) (v : Int) (w : World) (h : ArF w p F A) (hx : k < A.cells.length) (hlog : A.log.length < 1000000000000) :
    Calls Try.prog 103 #[.pointer (some ⟨p, 0, none⟩), .int .i64 k, .int .i64 v] w fun e w' => e = .returned (.int .i64 0) ∧ AA w w' p F ((A.put k v).noted ⟨0, 1, k, v, 0, true⟩) := by
  obtain ⟨vc, vl, h, rfl⟩ := h
  refine (store_in p vc vl A k v w h hx hlog).mono ?_
  rintro e w' ⟨rfl, hA⟩
  exact ⟨rfl, AA.of hA⟩
theorem arf_reserve (p : Nat) (F : Nat → Prop) (A : Ar) (n : Nat) (w : World) (h : ArF w p F A) (hn : 0 < n) (hfit : A.cells.length + n ≤ A.size) (hlog : A.log.length < 1000000000000) :
    Calls Try.prog 102 #[.pointer (some ⟨p, 0, none⟩), .int .i64 n] w fun e w' => e = .returned (.tuple #[.int .i64 A.cells.length, .int .i64 0]) ∧ AA w w' p F ((A.more n).noted ⟨0, 4, A.cells.length, n, 0, true⟩) := by
  obtain ⟨vc, vl, h, rfl⟩ := h
  refine (reserve_fits p vc vl A n w h hn hfit hlog).mono ?_
  rintro e w' ⟨rfl, hA⟩
  exact ⟨rfl, AA.of hA⟩
theorem arf_watch (p : Nat) (F : Nat → Prop) (A : Ar) (t : Bool) (w : World) (h : ArF w p F A) :
    Calls Try.prog 26 #[.pointer (some ⟨p, 0, none⟩), .bool t] w fun e w' => e = .returned (.tuple #[]) ∧ AA w w' p F { A with on := t } := by
  obtain ⟨vc, vl, h, rfl⟩ := h
  refine (watch_any p vc vl A t w h).mono ?_
  rintro e w' ⟨rfl, h', hk⟩
  exact ⟨rfl, _, ⟨vc, vl, h', rfl⟩, hk, fun k f => .inl f⟩
theorem newA_new (n : Nat) (w : World) (hn : n ≤ 1048576) :
    Calls Try.prog 23 #[.int .i64 n] w fun e w' => e = .returned (.tuple #[.pointer (some ⟨w.heap.size, 0, none⟩), .int .i64 0]) ∧ NewA w w' w.heap.size (Ar.new n) := by
  refine (new_ok n w hn).mono ?_
  rintro e w' ⟨rfl, hA, hk⟩
  refine ⟨rfl, _, ⟨_, _, hA, rfl⟩, hk, ?_⟩
  rintro k (rfl | e | e)
  · exact Nat.le_refl _
  · simp [Value.ownBlock] at e
  · simp [Value.ownBlock] at e
end Go.Proofs.Ytaeooljfilkaeaa
/-! The law's own 'arena'. -/
namespace Go.Proofs.Ytaeooljfilkaeaa
open Go.RowKit Go.HeapKit

theorem fill_step (zs : List Int) (k : Nat) (hk : k < zs.length) : (zs.take k ++ List.replicate (zs.length - k) (0 : Int)).set k (zs.getD k 0) = zs.take (k + 1) ++ List.replicate (zs.length - (k + 1)) 0 := by
  apply List.ext_getElem?
  intro i
  simp only [List.getElem?_set, List.getElem?_append, List.length_take, List.getElem?_take, List.getElem?_replicate, List.length_append, List.length_replicate]
  by_cases h : k = i
  · subst h
    have h1 : min k zs.length = k := by omega
    have h2 : min (k + 1) zs.length = k + 1 := by omega
    simp [h1, h2, hk, List.getD]
    omega
  · have h1 : min k zs.length = k := by omega
    have h2 : min (k + 1) zs.length = k + 1 := by omega
    simp only [h1, h2, if_neg h]
    by_cases h3 : i < k
    · simp [h3, show i < k + 1 by omega]
    · simp only [if_neg h3, if_neg (show ¬ i < k + 1 by omega)]
      congr 1
      simp only [eq_iff_iff]
      omega
end Go.Proofs.Ytaeooljfilkaeaa
/-! 'New' of the deque, on an arena. -/
namespace Go.Proofs.Ytaeooljfilkaeaa
open Go.RowKit Go.HeapKit Go.IntWalk

def CapOK (f m : Int) : Prop := 1 ≤ f ∧ f ≤ m ∧ m ≤ 4096
theorem mostFits_any (m : Int) (w : World) : Calls Try.prog 66 #[.int .i64 m] w fun e w' => e = .returned (.bool (decide (1 ≤ m) && decide (m ≤ 4096))) ∧ w' = w := by
  by_cases h1 : 1 ≤ m <;> by_cases h2 : m ≤ 4096
  all_goals
    go_enter Try.func66, Try.ntmps66
    go_wp2
    go_ret
    exact ⟨by simp [h1, h2], rfl⟩
theorem capsFit_ok (f m : Int) (w : World) (h : CapOK f m) : Calls Try.prog 41 #[.int .i64 f, .int .i64 m] w fun e w' => e = .returned (.bool true) ∧ w' = w := by
  obtain ⟨h1, h2, h3⟩ := h
  have hm := mostFits_any m
  have e1 : (decide (1 ≤ m) && decide (m ≤ 4096)) = true := by simp; omega
  rw [e1] at hm
  clear e1
  go_enter Try.func41, Try.ntmps41
  go_wp2_with (go_at_call 66; refine (hm _).mono ?_; rintro e w' ⟨rfl, rfl⟩)
  go_ret
  exact ⟨rfl, rfl⟩
theorem capsFit_bad (f m : Int) (w : World) (h : ¬ CapOK f m) : Calls Try.prog 41 #[.int .i64 f, .int .i64 m] w fun e w' => e = .returned (.bool false) ∧ w' = w := by
  by_cases h1 : 1 ≤ f
  · by_cases h2 : f ≤ m
    · have hm := mostFits_any m
      have e1 : (decide (1 ≤ m) && decide (m ≤ 4096)) = false := by simp; intro; unfold CapOK at h; omega
      rw [e1] at hm
      clear e1 h
      go_enter Try.func41, Try.ntmps41
      go_wp2_with (go_at_call 66; refine (hm _).mono ?_; rintro e w' ⟨rfl, rfl⟩)
      go_ret
      exact ⟨rfl, rfl⟩
    · clear h
      go_enter Try.func41, Try.ntmps41
      go_wp2
      go_ret
      exact ⟨rfl, rfl⟩
  · clear h
    go_enter Try.func41, Try.ntmps41
    go_wp2
    go_ret
    exact ⟨rfl, rfl⟩
theorem bufferCells_any (n : Nat) (w : World) (hn : n ≤ 4096) : Calls Try.prog 43 #[.int .i64 n] w fun e w' => e = .returned (.int .i64 (1 + n : Nat)) ∧ w' = w := by
  go_enter Try.func43, Try.ntmps43
  go_wp2
  go_ret
  exact ⟨by simp, rfl⟩
theorem buf_any (n : Nat) (m : Int) (hn : n ≤ 1048576) (w : World) : Calls Try.prog 45 #[.agg #[.int .i64 n, .int .i64 m]] w fun e w' => e = .returned (.int .i64 (n + 2 : Nat)) ∧ Keeps None w w' := by
  go_enter Try.func45, Try.ntmps45
  go_wp2
  go_ret
  exact ⟨by simp, Keeps.alloc None w _⟩
/-- The end of a function with a deque in the block g and a number. -/
theorem deq_ret {Q : Ending → World → Prop} {a : Act} {w1 : World} {g : Nat} {t : TypeId} {fn : Func} {v0 v1 : Value} (hfn : fn.results = #[.cell 6 62, .tmp 7]) (hb : w1.heap[g]? = some (.cells #[v0, v1] t (0, 0)))
    (ha : a.tmps.getD 6 undef = .pointer (some ⟨g, 0, none⟩)) (hd : a.defers = [])
    (hQ : Q (.returned (.tuple #[.agg #[v0, v1], a.tmps.getD 7 undef])) w1) :
    bodyPost Try.prog fn Q .ret a w1 := by
  have hl := run_loadVar_row (P := Try.prog) _ g t 62 _ _ _ hb Try.underlying62 rfl (by kernel_rfl)
  have ha' : a.tmps[6]?.getD undef = .pointer (some ⟨g, 0, none⟩) := by simpa using ha
  refine bodyPost_ret (v := .tuple #[.agg #[v0, v1], a.tmps.getD 7 undef]) ?_ hd hQ
  rw [results_cell_tmp hfn]
  simp [asAddr, ha', hl, Result.andThen]
theorem deq_end {Q : Ending → World → Prop} {a : Act} {w1 : World} {g : Nat} {c : Array Value} {t : TypeId} {fn : Func} (hfn : fn.results = #[.cell 6 62, .tmp 7]) (hc : c.size = 2) (hb : w1.heap[g]? = some (.cells c t (0, 0)))
    (ha : a.tmps.getD 6 undef = .pointer (some ⟨g, 0, none⟩)) (hd : a.defers = []) (v0 v1 : Value)
    (hQ : ∀ w', Keeps (· = g) w1 w' → Q (.returned (.tuple #[.agg #[v0, v1], a.tmps.getD 7 undef])) w') :
    bodyPost Try.prog fn Q .ret a ((w1.setCell ⟨g, 0, none⟩ v0).setCell ⟨g, 1, none⟩ v1) := by
  have hb2 := setCell_block (i := 1) (setCell_block (i := 0) hb v0) v1
  have hc3 : (c.setIfInBounds 0 v0).setIfInBounds 1 v1 = #[v0, v1] := by
    obtain ⟨l⟩ := c
    match l, hc with
    | [_, _], _ => rfl
  rw [hc3] at hb2
  exact deq_ret hfn hb2 ha hd (hQ _ ((Keeps.setCell (S := (· = g)) w1 (a := ⟨g, 0, none⟩) rfl _).andSet (x := ⟨g, 1, none⟩) (.inl rfl) _))

theorem meth3_store (p : Nat) (w : World) : (method 277 58 (.pointer (some ⟨p, 0, none⟩)) "Store").run Try.prog w = .ok (103, .pointer (some ⟨p, 0, none⟩)) w := by kernel_rfl
theorem meth3_reserve (p : Nat) (w : World) : (method 277 58 (.pointer (some ⟨p, 0, none⟩)) "Reserve").run Try.prog w = .ok (102, .pointer (some ⟨p, 0, none⟩)) w := by kernel_rfl

theorem nil3_store (p : Nat) (w : World) : (nilAhead 277 58 (.pointer (some ⟨p, 0, none⟩)) "Store").run Try.prog w = .ok (some false) w := by kernel_rfl
theorem nil3_reserve (p : Nat) (w : World) : (nilAhead 277 58 (.pointer (some ⟨p, 0, none⟩)) "Reserve").run Try.prog w = .ok (some false) w := by kernel_rfl

def Ar.laid (A : Ar) (f : Nat) : Ar :=
  ((((((A.more (4 + f)).noted ⟨0, 4, A.cells.length, (4 + f : Nat), 0, true⟩).put (A.cells.length + 2) ((A.cells.length : Int) + 3)).noted ⟨0, 1, (A.cells.length + 2 : Nat), (A.cells.length : Int) + 3, 0, true⟩).put (A.cells.length + 3) f).noted ⟨0, 1, (A.cells.length + 3 : Nat), f, 0, true⟩)
theorem arf_store_int (p : Nat) (F : Nat → Prop) (A : Ar) (x : Int) (k : Nat) (v : Int) (w : World) (hxk : x = k) (h : ArF w p F A) (hx : k < A.cells.length) (hlog : A.log.length < 1000000000000) :
    Calls Try.prog 103 #[.pointer (some ⟨p, 0, none⟩), .int .i64 x, .int .i64 v] w fun e w' => e = .returned (.int .i64 0) ∧ AA w w' p F ((A.put k v).noted ⟨0, 1, k, v, 0, true⟩) := by
  subst hxk
  exact arf_store p F A k v w h hx hlog
theorem dnew_nil (f m : Int) (w : World) : Calls Try.prog 25 #[.nilIface, .int .i64 f, .int .i64 m] w fun e w' => e = .returned (.tuple #[.agg #[.int .i64 0, .int .i64 0], .int .i64 1]) ∧ Keeps None w w' := by
  go_enter Try.func25, Try.ntmps25
  go_wp2
  refine deq_ret rfl (new_at w _ _ rfl) rfl rfl ⟨rfl, Keeps.alloc None w _⟩
set_option maxHeartbeats 4000000 in
set_option maxRecDepth 100000 in
theorem dnew_bad (p : Nat) (f m : Int) (w : World) (h : ¬ CapOK f m) : Calls Try.prog 25 #[.iface 58 (.pointer (some ⟨p, 0, none⟩)), .int .i64 f, .int .i64 m] w fun e w' => e = .returned (.tuple #[.agg #[.int .i64 0, .int .i64 0], .int .i64 30]) ∧ Keeps None w w' := by
  have hc := fun w => capsFit_bad f m w h
  go_enter Try.func25, Try.ntmps25
  go_wp2_with fail
  refine (hc _).mono ?_
  rintro e w' ⟨rfl, hw⟩
  have hw2 := hw.symm
  subst hw2
  clear hw
  go_wp2
  refine deq_ret rfl (new_at w _ _ rfl) rfl rfl ⟨rfl, Keeps.alloc None w _⟩
theorem keep2 {S : Nat → Prop} {w w' : World} (a b : Addr) {u v : Value} (hk : Keeps S w w') (ha : ¬ S a.block) (hb : ¬ S b.block) (h : w.cell? a = some u ∧ w.cell? b = some v) : w'.cell? a = some u ∧ w'.cell? b = some v :=
  ⟨hk.cell h.1 ha, hk.cell h.2 hb⟩
theorem AA.out {w w1 w4 w' : World} {p g : Nat} {F : Nat → Prop} {B : Ar} (h : AA w1 w4 p F B) (h01 : Keeps None w w1) (hg : w.heap.size ≤ g) (hg1 : g < w1.heap.size) (hF : ¬ F g) (hk : Keeps (· = g) w4 w') : AA w w' p F B := by
  obtain ⟨F', h1, h2, h3⟩ := h
  have := h01.size
  refine ⟨F', h1.kept hk (fun k f e => ?_), ((h01.mono (fun _ f _ => f.elim)).trans h2 (fun _ f _ => f)).trans hk (fun i e hi => by omega), fun k f => ?_⟩
  · subst e
    rcases h3 _ f with f | f
    · exact hF f
    · omega
  · rcases h3 k f with f | f
    · exact .inl f
    · exact .inr (by omega)
theorem more_len (A : Ar) (n : Nat) : (A.more n).cells.length = A.cells.length + n := by simp [Ar.more]
theorem noted_len (A : Ar) (x : Acc) : (A.noted x).cells.length = A.cells.length := by unfold Ar.noted; split <;> rfl
theorem put_len (A : Ar) (k : Nat) (v : Int) : (A.put k v).cells.length = A.cells.length := by simp [Ar.put]
theorem noted_log (A : Ar) (x : Acc) : (A.noted x).log.length ≤ A.log.length + 1 := by unfold Ar.noted; split <;> simp
theorem more_log (A : Ar) (n : Nat) : (A.more n).log = A.log := rfl
theorem put_log (A : Ar) (k : Nat) (v : Int) : (A.put k v).log = A.log := rfl
set_option maxHeartbeats 4000000 in
set_option maxRecDepth 100000 in
theorem dnew_ok (p : Nat) (F : Nat → Prop) (A : Ar) (f m : Nat) (w : World) (h : CapOK f m) (hA : ArF w p F A) (hfit : A.cells.length + (4 + f) ≤ A.size) (hsz : A.size ≤ 1048576) (hlog : A.log.length < 1000000) :
    Calls Try.prog 25 #[.iface 58 (.pointer (some ⟨p, 0, none⟩)), .int .i64 f, .int .i64 m] w fun e w' => e = .returned (.tuple #[.agg #[.int .i64 A.cells.length, .int .i64 m], .int .i64 0]) ∧ AA w w' p F (A.laid f) := by
  have hc := fun w => capsFit_ok f m w h
  have hf4 : f ≤ 4096 := by have := h; unfold CapOK at this; omega
  have hb := fun w => bufferCells_any f w hf4
  have hm1 := meth3_reserve p
  have hm2 := meth3_store p
  have hn1 := nil3_reserve p
  have hn2 := nil3_store p
  obtain ⟨n, hn⟩ : ∃ n, n = 4 + f := ⟨_, rfl⟩
  have e3 : IntKind.i64.wrap (3 + (1 + (f : Int))) = (n : Int) := by rw [i64_in _ (by omega)]; omega
  have hr := arf_reserve p F A n ((w.alloc (.cells #[.int .i64 0, .int .i64 0] 62)).drew) ((hA.kept (Keeps.alloc None w _) (fun _ _ f => f)).kept (Keeps.drew None _) (fun _ _ f => f)) (by omega) (by omega) (by omega)
  have hlt : ∀ k, F k → k < w.heap.size := fun k f => hA.lt f
  have HA : Hid _ := And.intro hn hlt
  clear hA hn h hlt
  go_enter Try.func25, Try.ntmps25
  go_wp2_with fail
  refine (hc _).mono ?_
  rintro e w' ⟨rfl, hw⟩
  have hw2 := hw.symm
  subst hw2
  clear hw hc
  go_upto_region 5 with fail
  go_cut [8, 9] (fun s8 s9 wx => s8 = .int .i64 A.cells.length ∧ s9 = .int .i64 0 ∧ AA (w.alloc (.cells #[.int .i64 0, .int .i64 0] 62)).drew wx p F ((A.more n).noted ⟨0, 4, A.cells.length, n, 0, true⟩))
  case first =>
    go_region_held3 (fun _ => True) (trivial) (first
      | (go_at_call 43; refine (hb _).mono ?_; rintro e w' ⟨rfl, hw⟩; have hw2 := hw.symm; subst hw2; clear hw)
      | (go_at_call 102; refine hr.mono ?_; rintro e w1 ⟨rfl, hA1⟩))
    all_goals (go_wp2_with fail; go_meet)
    all_goals exact ⟨rfl, rfl, hA1⟩
  case rest =>
    obtain ⟨rfl, rfl, F1, hF1, hk1, hf1⟩ := hcut
    obtain ⟨wb, hwb⟩ : ∃ wb, wb = wc := ⟨_, rfl⟩
    subst hwb
    have hn4 : 4 + f ≤ n := by have := HA.out.1; omega
    have hs1 := hk1.size
    have hb1 : wb.heap[w.heap.size]? = some (.cells #[.int .i64 0, .int .i64 0] 62 (0, 0)) := (hk1.block w.heap.size (by simp) (fun f => by have := HA.out.2 _ f; omega)).trans (new_at w _ _ rfl)
    have hl1 : ((A.more n).noted ⟨0, 4, A.cells.length, n, 0, true⟩).cells.length = A.cells.length + n := by rw [noted_len, more_len]
    have hg1 : ((A.more n).noted ⟨0, 4, A.cells.length, n, 0, true⟩).log.length ≤ A.log.length + 1 := noted_log _ _
    have hA1 : Hid (ArF wb p F1 ((A.more n).noted ⟨0, 4, A.cells.length, n, 0, true⟩)) := hF1
    have HK1 : Hid _ := And.intro hk1 (And.intro hf1 hs1)
    have hbf := buf_any A.cells.length m (by omega)
    clear hF1 hk1 hf1 hs1 hr hb hm1 hn1 e3
    generalize hA1e : (A.more n).noted ⟨0, 4, A.cells.length, n, 0, true⟩ = A1 at hA1 hl1 hg1
    have HA1e : Hid _ := hA1e
    clear hA1e
    go_upto_region 10 with fail
    go_cut [12] (fun s12 wx => s12 = .int .i64 0 ∧ wx.cell? ⟨wb.heap.size, 0, none⟩ = some (.int .i64 A.cells.length) ∧ wx.cell? ⟨wb.heap.size, 1, none⟩ = some (.int .i64 m) ∧ AA (wb.alloc (.cells #[.int .i64 A.cells.length, .int .i64 m] 62)).drew wx p F1 ((A1.put (A.cells.length + 2) ((A.cells.length : Int) + 3)).noted ⟨0, 1, (A.cells.length + 2 : Nat), (A.cells.length : Int) + 3, 0, true⟩))
    case first =>
      have hd := new_at wb (.cells #[.int .i64 A.cells.length, .int .i64 m] 62) _ rfl
      have hlt1 : ∀ k, F1 k → k < wb.heap.size := fun k f => hA1.out.lt f
      have hno : ¬ F1 wb.heap.size := fun f => by have := hlt1 _ f; omega
      have HN : Hid (¬ F1 wb.heap.size) := hno
      clear hno hlt1
      go_region_held3 (fun w' => w'.cell? ⟨wb.heap.size, 0, none⟩ = some (.int .i64 A.cells.length) ∧ w'.cell? ⟨wb.heap.size, 1, none⟩ = some (.int .i64 m)) (first | exact hs3 | exact hs2 | go_keep) (first
        | (go_at_call 45; refine (hbf _).mono ?_; rintro e w2 ⟨rfl, hk2⟩; have hs2 := keep2 ⟨wb.heap.size, 0, none⟩ ⟨wb.heap.size, 1, none⟩ hk2 (fun f => f) (fun f => f) (by assumption))
        | (go_at_call 103; refine (arf_store_int p F1 A1 _ (A.cells.length + 2) _ w2 (by omega) (((hA1.out.kept (Keeps.alloc None wb _) (fun _ _ f => f)).kept (Keeps.drew None _) (fun _ _ f => f)).kept hk2 (fun _ _ f => f)) (by omega) (by omega)).mono ?_; rintro e w3 ⟨rfl, hA3⟩; have hs3 := keep2 ⟨wb.heap.size, 0, none⟩ ⟨wb.heap.size, 1, none⟩ hA3.choose_spec.2.1 HN.out HN.out hs2))
      all_goals (go_wp2_with fail; go_meet)
      all_goals exact ⟨rfl, hs3.1, hs3.2, AA.trans (hk2.mono (fun _ f _ => f.elim)) (fun _ f => .inl f) hA3⟩
    case rest =>
      obtain ⟨rfl, hd0, hd1, F2, hF2, hk2, hf2⟩ := hcut
      have hl2 : ((A1.put (A.cells.length + 2) ((A.cells.length : Int) + 3)).noted ⟨0, 1, (A.cells.length + 2 : Nat), (A.cells.length : Int) + 3, 0, true⟩).cells.length = A.cells.length + n := by rw [noted_len, put_len, hl1]
      have hg2 : ((A1.put (A.cells.length + 2) ((A.cells.length : Int) + 3)).noted ⟨0, 1, (A.cells.length + 2 : Nat), (A.cells.length : Int) + 3, 0, true⟩).log.length ≤ A.log.length + 2 := by
        have := noted_log (A1.put (A.cells.length + 2) ((A.cells.length : Int) + 3)) ⟨0, 1, (A.cells.length + 2 : Nat), (A.cells.length : Int) + 3, 0, true⟩
        rw [put_log] at this
        omega
      have hst := arf_store_int p F2 _ ((A.cells.length : Int) + 3) (A.cells.length + 3) f wc (by omega) hF2 (by rw [hl2]; omega) (by omega)
      have hno1 : ¬ F1 w.heap.size := fun f => by
        rcases HK1.out.2.1 _ f with f | f
        · have := HA.out.2 _ f; omega
        · simp at f; omega
      have hno2 : ¬ F2 w.heap.size := fun f => by
        have := HK1.out.2.2
        rcases hf2 _ f with f | f
        · exact hno1 f
        · simp at f this; omega
      have hno3 : ¬ F2 wb.heap.size := fun f => by
        rcases hf2 _ f with f | f
        · have := hA1.out.lt f; omega
        · simp at f; omega
      have hr2 : wc.heap[w.heap.size]? = some (.cells #[.int .i64 0, .int .i64 0] 62 (0, 0)) := by
        have hs := HK1.out.2.2
        simp at hs
        exact (((Keeps.alloc F1 wb _).andDrew.trans hk2 (fun _ f _ => f)).block w.heap.size (by omega) hno1).trans hb1
      have H2 : Hid _ := And.intro hk2 (And.intro hf2 (And.intro hno2 (And.intro hno3 hr2)))
      have HD : Hid _ := And.intro hd0 hd1
      clear hF2 hk2 hf2 hno1 hno2 hno3 hr2 hd0 hd1 hl2 hg2 hb1 hbf
      go_wp2_with fail
      refine hst.mono ?_
      rintro e w4 ⟨rfl, hA4⟩
      have hk4 := hA4.choose_spec.2.1
      have hr4 := (hk4.block w.heap.size (Array.getElem?_eq_some_iff.1 H2.out.2.2.2.2).1 H2.out.2.2.1).trans H2.out.2.2.2.2
      obtain ⟨d0, d1⟩ := keep2 ⟨wb.heap.size, 0, none⟩ ⟨wb.heap.size, 1, none⟩ hk4 H2.out.2.2.2.1 H2.out.2.2.2.1 HD.out
      have r0 := (cell_of_block hr4 0).trans rfl
      have r1 := (cell_of_block hr4 1).trans rfl
      have q0 := free_of_block hr4 0
      have q1 := free_of_block hr4 1
      have hneg : ¬ w.heap.size = wb.heap.size := by have := HK1.out.2.2; simp at this; omega
      have hE : AA (w.alloc (.cells #[.int .i64 0, .int .i64 0] 62)).drew w4 p F (A.laid f) := by
        have h2 := AA.trans ((Keeps.alloc F1 wb _).andDrew.trans H2.out.1 (fun _ f _ => f)) (fun k f => by
          rcases H2.out.2.1 k f with f | f
          · exact .inl f
          · exact .inr (by simp at f; omega)) hA4
        have h1 := AA.trans HK1.out.1 HK1.out.2.1 h2
        rw [← HA1e.out, HA.out.1] at h1
        exact h1
      have HE : Hid _ := hE
      clear hE hA4 hk4
      go_wp2
      refine deq_end rfl rfl hr4 rfl rfl _ _ (fun w' hk => ⟨rfl, AA.out HE.out ((Keeps.alloc None w _).andDrew) (Nat.le_refl _) (by simp) (fun f => by have := HA.out.2 _ f; omega) hk⟩)
end Go.Proofs.Ytaeooljfilkaeaa
/-! One move on an arena, as an effect. -/
namespace Go.Proofs.Ytaeooljfilkaeaa
open Go.RowKit Go.HeapKit

structure Eff where
  v : Int
  ok : Bool
  err : Int
def Eff.value (e : Eff) : Value := .agg #[.int .i64 e.v, .bool e.ok, .int .i64 e.err]
def bad (n : Int) : Eff := ⟨0, false, n⟩

/-- An access, plainly: what is answered, and what comes of the arena. (A count from A.) -/
def Ar.did (A : Ar) (kind addr a b : Int) : Eff × Ar :=
  if kind = 0 then if A.has addr then (⟨A.val addr.toNat, true, 0⟩, A.noted ⟨0, 0, addr, A.val addr.toNat, 0, true⟩) else (bad 20, A)
  else if kind = 1 then if A.has addr then (⟨0, true, 0⟩, (A.put addr.toNat a).noted ⟨0, 1, addr, a, 0, true⟩) else (bad 20, A)
  else if kind = 2 then
    if A.has addr then
      if A.val addr.toNat = a then (⟨0, true, 0⟩, (A.put addr.toNat b).noted ⟨0, 2, addr, a, b, true⟩) else (⟨0, false, 0⟩, A.noted ⟨0, 2, addr, a, b, false⟩)
    else (bad 20, A)
  else if kind = 3 then
    if A.has addr then (⟨wrap64 (A.val addr.toNat + a), true, 0⟩, (A.put addr.toNat (wrap64 (A.val addr.toNat + a))).noted ⟨0, 3, addr, a, wrap64 (A.val addr.toNat + a), true⟩)
    else (bad 20, A)
  else if a < 1 then (bad 21, A)
  else if (A.size : Int) - A.cells.length < a then (bad 22, A)
  else (⟨A.cells.length, true, 0⟩, (A.more a.toNat).noted ⟨0, 4, A.cells.length, a, 0, true⟩)

theorem Ar.has_nat {A : Ar} {x : Int} (h : A.has x = true) : ∃ k : Nat, x = k ∧ k < A.cells.length := by
  simp [Ar.has] at h
  exact ⟨x.toNat, by omega, by omega⟩

/-- The cell for the result, behind the accesses. -/
theorem res_block {w w1 : World} {p : Nat} {vc vl : Value} {A : Ar} {o1 o2 : Obj} (h : IsArena w p vc vl A) (hk : Keeps (Foot p vc vl) ((w.alloc o1).alloc o2) w1) :
    w1.heap[w.heap.size + 1]? = some o2 :=
  (hk.block _ (by simp) (fun f => by have := h.foot_lt f; omega)).trans (new_at _ _ _ (by simp))

theorem After.drop {w w1 w2 : World} {p : Nat} {vc vl : Value} {A B : Ar} {o1 o2 : Obj} (h : IsArena w p vc vl A) (hA : After ((w.alloc o1).alloc o2) w1 p vc vl B) (hk : Keeps (· = w.heap.size + 1) w1 w2) : After w w2 p vc vl B := by
  obtain ⟨vc', vl', hB, hk1, mc, ml⟩ := hA
  have hd : ∀ {v v'}, (∀ k, v.ownBlock = some k → k < w.heap.size) → Moved ((w.alloc o1).alloc o2) v v' → ∀ k, v'.ownBlock = some k → k ≠ w.heap.size + 1 := by
    intro v v' hv hm k e
    rcases hm with hm | ⟨g, hm, hg⟩
    · have := hv k (hm ▸ e); omega
    · rw [e] at hm; injection hm with hm; simp at hg; omega
  have hm2 : ∀ {v v'}, Moved ((w.alloc o1).alloc o2) v v' → Moved w v v' := by
    intro v v' hm
    rcases hm with hm | ⟨g, hm, hg⟩
    · exact .inl hm
    · exact .inr ⟨g, hm, by simp at hg; omega⟩
  refine ⟨vc', vl', hB.kept hk ?_, (((Keeps.refl _ w).andAlloc o1).andAlloc o2 |>.trans hk1 (fun _ f _ => f)).trans hk (fun i e hi => by omega), hm2 mc, hm2 ml⟩
  rintro k (rfl | hk | hk)
  · have := h.lt; omega
  · exact hd (fun k e => own_lt h.cells e) mc k hk
  · exact hd (fun k e => own_lt h.log e) ml k hk

/-- A result that lives in a block of its own. -/
theorem results_row {P : Program} {fn : Func} {q : Tmp} {ty : TypeId} (h : fn.results = #[.cell q ty]) {tmps : Array Value} {w : World} {g : Nat} (ha : tmps.getD q undef = .pointer (some ⟨g, 0, none⟩)) {v : Value}
    (hl : (loadVar ty ⟨g, 0, none⟩).run P w = .ok v w) : (results fn tmps).run P w = .ok v w := by
  have ha' : tmps[q]?.getD undef = .pointer (some ⟨g, 0, none⟩) := by simpa using ha
  simp [results, h, ha', asAddr, hl]

theorem load_did (p : Nat) (vc vl : Value) (A : Ar) (x a b : Int) (w : World) (h : IsArena w p vc vl A) (hlog : A.log.length < 1000000000000) :
    Calls Try.prog 100 #[.pointer (some ⟨p, 0, none⟩), .int .i64 x] w fun e w' => e = .returned (.tuple #[.int .i64 (A.did 0 x a b).1.v, .int .i64 (A.did 0 x a b).1.err]) ∧ After w w' p vc vl (A.did 0 x a b).2 := by
  cases hx : A.has x with
  | false =>
    refine (load_out p vc vl A x w h hx).mono ?_
    rintro e w' ⟨rfl, rfl⟩
    simpa [Ar.did, hx, bad] using After.same h
  | true =>
    obtain ⟨k, rfl, hk⟩ := Ar.has_nat hx
    refine (load_in p vc vl A k w h hk hlog).mono ?_
    rintro e w' ⟨rfl, hA⟩
    simpa [Ar.did, hx] using hA
theorem store_did (p : Nat) (vc vl : Value) (A : Ar) (x a b : Int) (w : World) (h : IsArena w p vc vl A) (hlog : A.log.length < 1000000000000) :
    Calls Try.prog 103 #[.pointer (some ⟨p, 0, none⟩), .int .i64 x, .int .i64 a] w fun e w' => e = .returned (.int .i64 (A.did 1 x a b).1.err) ∧ After w w' p vc vl (A.did 1 x a b).2 := by
  cases hx : A.has x with
  | false =>
    refine (store_out p vc vl A x a w h hx).mono ?_
    rintro e w' ⟨rfl, rfl⟩
    simpa [Ar.did, hx, bad] using After.same h
  | true =>
    obtain ⟨k, rfl, hk⟩ := Ar.has_nat hx
    refine (store_in p vc vl A k a w h hk hlog).mono ?_
    rintro e w' ⟨rfl, hA⟩
    simpa [Ar.did, hx] using hA
theorem cas_did (p : Nat) (vc vl : Value) (A : Ar) (x a b : Int) (w : World) (h : IsArena w p vc vl A) (hlog : A.log.length < 1000000000000) :
    Calls Try.prog 99 #[.pointer (some ⟨p, 0, none⟩), .int .i64 x, .int .i64 a, .int .i64 b] w fun e w' => e = .returned (.tuple #[.bool (A.did 2 x a b).1.ok, .int .i64 (A.did 2 x a b).1.err]) ∧ After w w' p vc vl (A.did 2 x a b).2 := by
  cases hx : A.has x with
  | false =>
    refine (cas_out p vc vl A x a b w h hx).mono ?_
    rintro e w' ⟨rfl, rfl⟩
    simpa [Ar.did, hx, bad] using After.same h
  | true =>
    obtain ⟨k, rfl, hk⟩ := Ar.has_nat hx
    by_cases hv : A.val k = a
    · subst hv
      refine (cas_hit p vc vl A k b w h hk hlog).mono ?_
      rintro e w' ⟨rfl, hA⟩
      simpa [Ar.did, hx] using hA
    · refine (cas_miss p vc vl A k a b w h hk hlog (by simpa using hv)).mono ?_
      rintro e w' ⟨rfl, hA⟩
      simpa [Ar.did, hx, hv] using hA
def Other (kind : Int) : Prop := ¬ kind = 0 ∧ ¬ kind = 1 ∧ ¬ kind = 2 ∧ ¬ kind = 3
theorem reserve_did (p : Nat) (vc vl : Value) (A : Ar) (kind x a b : Int) (hk : Other kind) (w : World) (h : IsArena w p vc vl A) (hlog : A.log.length < 1000000000000) :
    Calls Try.prog 102 #[.pointer (some ⟨p, 0, none⟩), .int .i64 a] w fun e w' => e = .returned (.tuple #[.int .i64 (A.did kind x a b).1.v, .int .i64 (A.did kind x a b).1.err]) ∧ After w w' p vc vl (A.did kind x a b).2 := by
  obtain ⟨k0, k1, k2, k3⟩ := hk
  by_cases h1 : a < 1
  · refine (reserve_few p vc vl A a w h h1).mono ?_
    rintro e w' ⟨rfl, rfl⟩
    simpa [Ar.did, k0, k1, k2, k3, h1, bad] using After.same h
  by_cases h2 : (A.size : Int) - A.cells.length < a
  · refine (reserve_many p vc vl A a w h h1 h2).mono ?_
    rintro e w' ⟨rfl, rfl⟩
    simpa [Ar.did, k0, k1, k2, k3, h1, h2, bad] using After.same h
  · obtain ⟨n, rfl⟩ : ∃ n : Nat, a = n := ⟨a.toNat, by omega⟩
    refine (reserve_fits p vc vl A n w h (by omega) (by have := h.fit; omega) hlog).mono ?_
    rintro e w' ⟨rfl, hA⟩
    simpa [Ar.did, k0, k1, k2, k3, h1, h2] using hA

/-- But for a CAS what is not refused is 'OK'. -/
theorem Ar.did_ok (A : Ar) (kind x a b : Int) (hk : ¬ kind = 2) : (A.did kind x a b).1.ok = ((A.did kind x a b).1.err == 0) := by
  unfold Ar.did
  simp only [hk, if_false]
  split
  · split <;> rfl
  split
  · split <;> rfl
  split
  · split <;> rfl
  split
  · rfl
  split <;> rfl
theorem Ar.did_v1 (A : Ar) (x a b : Int) : (A.did 1 x a b).1.v = 0 := by unfold Ar.did; simp; split <;> rfl
theorem Ar.did_v2 (A : Ar) (x a b : Int) : (A.did 2 x a b).1.v = 0 := by unfold Ar.did; simp; split; split <;> rfl; rfl

end Go.Proofs.Ytaeooljfilkaeaa
/-! Plain facts on 64-bit numbers and on the sixteen operations: no program in sight. -/
namespace Go.PlainOps
open Go.RowKit

abbrev bv (x : Int) : BitVec 64 := BitVec.ofInt 64 x
theorem toInt_bv {x : Int} (h0 : -9223372036854775808 ≤ x) (h1 : x ≤ 9223372036854775807) : (bv x).toInt = x := by
  apply BitVec.toInt_ofInt_eq_self (by decide) <;> omega
theorem bv_bounds (v : BitVec 64) : -9223372036854775808 ≤ v.toInt ∧ v.toInt ≤ 9223372036854775807 := by
  have h1 := BitVec.le_toInt v
  have h2 := BitVec.toInt_lt (x := v)
  constructor <;> omega
theorem wrap64_bv (x : Int) : wrap64 x = (bv x).toInt := by
  unfold bv
  rw [BitVec.toInt_ofInt]; unfold wrap64; simp [Int.bmod]; omega
theorem wrap_i64 (x : Int) : IntKind.i64.wrap x = (bv x).toInt := by
  rw [← wrap64_bv]; simp [IntKind.wrap, IntKind.bits, IntKind.signed, wrap64]; omega
theorem bv_toNat (v : BitVec 64) : bv (v.toNat : Int) = v := by
  apply BitVec.eq_of_toNat_eq; simp [bv]
theorem bits_and (a b : Int) : bits .and .i64 a b = (bv a &&& bv b).toInt := by
  show IntKind.i64.wrap ((bv a &&& bv b).toNat : Int) = _
  rw [wrap_i64, bv_toNat]
theorem bits_or (a b : Int) : bits .or .i64 a b = (bv a ||| bv b).toInt := by
  show IntKind.i64.wrap ((bv a ||| bv b).toNat : Int) = _
  rw [wrap_i64, bv_toNat]
theorem bits_xor (a b : Int) : bits .xor .i64 a b = (bv a ^^^ bv b).toInt := by
  show IntKind.i64.wrap ((bv a ^^^ bv b).toNat : Int) = _
  rw [wrap_i64, bv_toNat]
theorem bv_toInt (v : BitVec 64) : bv v.toInt = v := BitVec.ofInt_toInt
theorem bv_add (a b : Int) : bv (a + b) = bv a + bv b := BitVec.ofInt_add a b
theorem bv_mul (a b : Int) : bv (a * b) = bv a * bv b := BitVec.ofInt_mul a b
theorem bv_sub (a b : Int) : bv (a - b) = bv a - bv b := by
  rw [Int.sub_eq_add_neg, bv_add]; simp [bv, BitVec.ofInt_neg, BitVec.sub_eq_add_neg]
theorem split_and (a b : BitVec 64) : (a &&& ~~~b) + (a &&& b) = a := by
  rw [BitVec.add_eq_or_of_and_eq_zero]
  · ext i; simp; cases a[i] <;> cases b[i] <;> rfl
  · ext i; simp; cases a[i] <;> cases b[i] <;> simp
theorem and_add_or (a b : BitVec 64) : (a &&& b) + (a ||| b) = a + b := by
  have h1 : (a &&& ~~~b) + b = a ||| b := by
    rw [BitVec.add_eq_or_of_and_eq_zero]
    · ext i; simp; cases a[i] <;> cases b[i] <;> rfl
    · ext i; simp
  rw [← h1]
  conv => rhs; rw [← split_and a b]
  rw [← BitVec.add_assoc, BitVec.add_comm (a &&& b)]
theorem or_sub_and (a b : BitVec 64) : (a ||| b) - (a &&& b) = a ^^^ b := by
  have h1 : (a ^^^ b) + (a &&& b) = a ||| b := by
    rw [BitVec.add_eq_or_of_and_eq_zero]
    · ext i; simp; cases a[i] <;> cases b[i] <;> rfl
    · ext i; simp; cases a[i] <;> cases b[i] <;> simp
  rw [← h1, BitVec.add_sub_cancel]
/-- The low six bits are the remainder modulo 64. -/
theorem and63 (x : Int) : bits .and .i64 x 63 = x % 64 := by
  rw [bits_and]
  have e : ((bv x) &&& (bv 63)).toNat = (bv x).toNat % 64 := by
    rw [BitVec.toNat_and]
    exact Nat.and_two_pow_sub_one_eq_mod _ 6
  have hx : ((bv x).toNat : Int) = x % 18446744073709551616 := by
    simp [bv]; omega
  rw [BitVec.toInt_eq_toNat_of_lt (by omega), e]
  omega

/-! The value of an operation. -/
def quotV (a b : Int) : Int := if b = 0 then 0 else wrap64 (a.tdiv b)
def remV (a b : Int) : Int := if b = 0 then a else a.tmod b
def shlV (a b : Int) : Int := wrap64 (a * 2 ^ (b % 64).toNat)
def shrV (a b : Int) : Int := a / 2 ^ (b % 64).toNat
def minV (a b : Int) : Int := if b < a then b else a
def maxV (a b : Int) : Int := if a < b then b else a
def truthV (b : Bool) : Int := if b then 1 else 0
def workV (op a b : Int) : Int :=
  if op = 0 then wrap64 (a + b)
  else if op = 1 then wrap64 (a - b)
  else if op = 2 then wrap64 (a * b)
  else if op = 3 then quotV a b
  else if op = 4 then remV a b
  else if op = 5 then bits .and .i64 a b
  else if op = 6 then bits .or .i64 a b
  else if op = 7 then bits .xor .i64 a b
  else if op = 8 then shlV a b
  else if op = 9 then shrV a b
  else if op = 10 then minV a b
  else if op = 11 then maxV a b
  else if op = 12 then truthV (decide (a < b))
  else if op = 13 then truthV (decide (a ≤ b))
  else if op = 14 then truthV (a == b)
  else truthV (a != b)
def isOpV (op : Int) : Bool := decide (0 ≤ op ∧ op < 16)
/-- Has the number a unit? -/
def hasU (op : Int) : Bool := op == 0 || op == 2 || op == 5 || op == 6 || op == 7 || op == 10 || op == 11
def unitV (op : Int) : Int :=
  if op = 2 then 1 else if op = 5 then -1 else if op = 10 then 9223372036854775807 else if op = 11 then -9223372036854775808 else 0
def modV (x n : Int) : Int := if n < 1 then 0 else x % n
theorem modV_bounds (x n : Int) (hn : 1 ≤ n) : 0 ≤ modV x n ∧ modV x n < n := by
  unfold modV; rw [if_neg (by omega)]
  exact ⟨Int.emod_nonneg _ (by omega), Int.emod_lt_of_pos _ (by omega)⟩
theorem tmod_mod (x n : Int) (hn : 1 ≤ n) : (if x.tmod n < 0 then x.tmod n + n else x.tmod n) = x % n := by
  rw [Int.tmod_eq_emod]
  have h0 := Int.emod_nonneg x (b := n) (by omega)
  have h1 := Int.emod_lt_of_pos x (b := n) (by omega)
  have e : (n.natAbs : Int) = n := by omega
  split <;> split <;> rename_i h2
  · rename_i h3; omega
  · omega
  · omega
  · omega
theorem tmod_bounds (x n : Int) (hn : 1 ≤ n) : -n < x.tmod n ∧ x.tmod n < n := by
  rw [Int.tmod_eq_emod]
  have h0 := Int.emod_nonneg x (b := n) (by omega)
  have h1 := Int.emod_lt_of_pos x (b := n) (by omega)
  split <;> omega
end Go.PlainOps
/-! The contract of ops.Mod. -/
namespace Go.Proofs.Ytaeooljfilkaeaa
open Go.RowKit Go.PlainOps

set_option maxHeartbeats 400000 in
theorem mod_any (x n : Int) (w : World) (hn : n ≤ 9223372036854775807) : Calls Try.prog 28 #[.int .i64 x, .int .i64 n] w fun e w' => e = .returned (.int .i64 (modV x n)) ∧ w' = w := by
  by_cases h : n < 1
  · go_enter Try.func28, Try.ntmps28
    go_wp2
    go_ret
    exact ⟨by simp [modV, h], rfl⟩
  · have h1 := tmod_mod x n (by omega)
    obtain ⟨b0, b1⟩ := tmod_bounds x n (by omega)
    have e : modV x n = (if x.tmod n < 0 then x.tmod n + n else x.tmod n) := by rw [h1]; simp [modV, h]
    have E : Hid (modV x n = (if x.tmod n < 0 then x.tmod n + n else x.tmod n)) := e
    clear e h1
    by_cases hr : x.tmod n < 0
    · go_enter Try.func28, Try.ntmps28
      go_wp2
      go_ret
      exact ⟨by rw [E.out, if_pos hr]; rfl, rfl⟩
    · go_enter Try.func28, Try.ntmps28
      go_wp2
      go_ret
      exact ⟨by rw [E.out, if_neg (by omega)]; rfl, rfl⟩
end Go.Proofs.Ytaeooljfilkaeaa
/-! A machine, plainly; the small functions on it. -/
namespace Go.Proofs.Ytaeooljfilkaeaa
open Go.RowKit Go.HeapKit Go.IntWalk Go.PlainOps

@[ext] structure OpS where
  base : Int
  most : Int
  at_ : Int
  code : Int
  v : Int
  t : Int
  b : Int
  a : Int
  c : Int
  na : Int
  nc : Int
  ix : Int
  mv : Int
def OpS.vals (o : OpS) : Array Value := #[.int .i64 o.base, .int .i64 o.most, .int .i64 o.at_, .int .i64 o.code, .int .i64 o.v, .int .i64 o.t, .int .i64 o.b, .int .i64 o.a, .int .i64 o.c, .int .i64 o.na, .int .i64 o.nc, .int .i64 o.ix, .int .i64 o.mv]
def OpS.value (o : OpS) : Value := .agg o.vals
def OpS.zero : OpS := ⟨0, 0, 0, 0, 0, 0, 0, 0, 0, 0, 0, 0, 0⟩
def OpS.ended (code v : Int) : OpS := ⟨0, 0, 1, code, v, 0, 0, 0, 0, 0, 0, 0, 0⟩

theorem op_ret1 {Q : Ending → World → Prop} {a : Act} {w1 : World} {g : Nat} {t : TypeId} {fn : Func} {v0 v1 v2 v3 v4 v5 v6 v7 v8 v9 v10 v11 v12 : Value} (q : Tmp) (hfn : fn.results = #[.cell q 119]) (hb : w1.heap[g]? = some (.cells #[v0, v1, v2, v3, v4, v5, v6, v7, v8, v9, v10, v11, v12] t (0, 0)))
    (ha : a.tmps.getD q undef = .pointer (some ⟨g, 0, none⟩)) (hd : a.defers = []) (hQ : Q (.returned (.agg #[v0, v1, v2, v3, v4, v5, v6, v7, v8, v9, v10, v11, v12])) w1) : bodyPost Try.prog fn Q .ret a w1 := by
  have hl := run_loadVar_row (P := Try.prog) _ g t 119 _ _ _ hb Try.underlying119 rfl (by kernel_rfl)
  have ha' : a.tmps[q]?.getD undef = .pointer (some ⟨g, 0, none⟩) := by simpa using ha
  refine bodyPost_ret (v := .agg #[v0, v1, v2, v3, v4, v5, v6, v7, v8, v9, v10, v11, v12]) ?_ hd hQ
  simp [results, hfn, ha', asAddr, hl]
theorem op_ret2 {Q : Ending → World → Prop} {a : Act} {w1 : World} {g : Nat} {t : TypeId} {fn : Func} {v0 v1 v2 v3 v4 v5 v6 v7 v8 v9 v10 v11 v12 : Value} (hfn : fn.results = #[.cell 4 119, .tmp 5]) (hb : w1.heap[g]? = some (.cells #[v0, v1, v2, v3, v4, v5, v6, v7, v8, v9, v10, v11, v12] t (0, 0)))
    (ha : a.tmps.getD 4 undef = .pointer (some ⟨g, 0, none⟩)) (hd : a.defers = []) (hQ : Q (.returned (.tuple #[.agg #[v0, v1, v2, v3, v4, v5, v6, v7, v8, v9, v10, v11, v12], a.tmps.getD 5 undef])) w1) : bodyPost Try.prog fn Q .ret a w1 := by
  have hl := run_loadVar_row (P := Try.prog) _ g t 119 _ _ _ hb Try.underlying119 rfl (by kernel_rfl)
  have ha' : a.tmps[4]?.getD undef = .pointer (some ⟨g, 0, none⟩) := by simpa using ha
  refine bodyPost_ret (v := .tuple #[.agg #[v0, v1, v2, v3, v4, v5, v6, v7, v8, v9, v10, v11, v12], a.tmps.getD 5 undef]) ?_ hd hQ
  rw [results_cell_tmp hfn]
  simp [asAddr, ha', hl, Result.andThen]
def setsFrom (w : World) (g : Nat) : Nat → List Value → World
  | _, [] => w
  | i, v :: vs => setsFrom (w.setCell ⟨g, i, none⟩ v) g (i + 1) vs
theorem setsFrom_keeps (g : Nat) : ∀ (vs : List Value) (i : Nat) (w : World), Keeps (· = g) w (setsFrom w g i vs)
  | [], _, _ => Keeps.refl _ _
  | v :: vs, i, w => (Keeps.setCell (S := (· = g)) w (a := ⟨g, i, none⟩) rfl v).trans (setsFrom_keeps g vs (i + 1) _) (fun _ f _ => f)
theorem setsFrom_block (g : Nat) (t : TypeId) : ∀ (vs : List Value) (i : Nat) (w : World) (c : Array Value), w.heap[g]? = some (.cells c t (0, 0)) → i + vs.length ≤ c.size →
    ∃ c', (setsFrom w g i vs).heap[g]? = some (.cells c' t (0, 0)) ∧ c'.toList = c.toList.take i ++ vs ++ c.toList.drop (i + vs.length)
  | [], i, w, c, hb, _ => ⟨c, hb, by simp⟩
  | v :: vs, i, w, c, hb, hl => by
    simp only [List.length_cons] at hl
    obtain ⟨c', h1, h2⟩ := setsFrom_block g t vs (i + 1) (w.setCell ⟨g, i, none⟩ v) (c.setIfInBounds i v) (setCell_block hb v) (by simp; omega)
    refine ⟨c', h1, h2.trans ?_⟩
    rw [Array.toList_setIfInBounds]
    have hi : i < c.toList.length := by simp; omega
    have e1 : (c.toList.set i v).take (i + 1) = c.toList.take i ++ [v] := by
      rw [List.set_eq_take_append_cons_drop, if_pos hi, List.take_append]
      have : (c.toList.take i).length = i := by simp; omega
      rw [List.take_of_length_le (by omega), this]
      simp
    have e2 : (c.toList.set i v).drop (i + 1 + vs.length) = c.toList.drop (i + (v :: vs).length) := by
      rw [List.drop_set_of_lt (by omega)]
      simp only [List.length_cons]
      congr 1
      omega
    rw [e1, e2]
    simp
theorem op_set {w1 : World} {g : Nat} {c : Array Value} {t : TypeId} (hc : c.size = 13) (hb : w1.heap[g]? = some (.cells c t (0, 0))) (v0 v1 v2 v3 v4 v5 v6 v7 v8 v9 v10 v11 v12 : Value) :
    (((((((((((((w1.setCell ⟨g, 0, none⟩ v0).setCell ⟨g, 1, none⟩ v1).setCell ⟨g, 2, none⟩ v2).setCell ⟨g, 3, none⟩ v3).setCell ⟨g, 4, none⟩ v4).setCell ⟨g, 5, none⟩ v5).setCell ⟨g, 6, none⟩ v6).setCell ⟨g, 7, none⟩ v7).setCell ⟨g, 8, none⟩ v8).setCell ⟨g, 9, none⟩ v9).setCell ⟨g, 10, none⟩ v10).setCell ⟨g, 11, none⟩ v11).setCell ⟨g, 12, none⟩ v12).heap[g]? = some (.cells #[v0, v1, v2, v3, v4, v5, v6, v7, v8, v9, v10, v11, v12] t (0, 0)) ∧ Keeps (· = g) w1 (((((((((((((w1.setCell ⟨g, 0, none⟩ v0).setCell ⟨g, 1, none⟩ v1).setCell ⟨g, 2, none⟩ v2).setCell ⟨g, 3, none⟩ v3).setCell ⟨g, 4, none⟩ v4).setCell ⟨g, 5, none⟩ v5).setCell ⟨g, 6, none⟩ v6).setCell ⟨g, 7, none⟩ v7).setCell ⟨g, 8, none⟩ v8).setCell ⟨g, 9, none⟩ v9).setCell ⟨g, 10, none⟩ v10).setCell ⟨g, 11, none⟩ v11).setCell ⟨g, 12, none⟩ v12) := by
  obtain ⟨c', h1, h2⟩ := setsFrom_block g t [v0, v1, v2, v3, v4, v5, v6, v7, v8, v9, v10, v11, v12] 0 w1 c hb (by simp [hc])
  have h3 : c' = #[v0, v1, v2, v3, v4, v5, v6, v7, v8, v9, v10, v11, v12] := by
    apply Array.toList_inj.1
    rw [h2, List.drop_of_length_le (by simp [hc])]
    rfl
  rw [h3] at h1
  exact ⟨h1, setsFrom_keeps g [v0, v1, v2, v3, v4, v5, v6, v7, v8, v9, v10, v11, v12] 0 w1⟩
theorem op_end1 {Q : Ending → World → Prop} {a : Act} {w1 : World} {g : Nat} {c : Array Value} {t : TypeId} {fn : Func} (q : Tmp) (hfn : fn.results = #[.cell q 119]) (hc : c.size = 13) (hb : w1.heap[g]? = some (.cells c t (0, 0)))
    (ha : a.tmps.getD q undef = .pointer (some ⟨g, 0, none⟩)) (hd : a.defers = []) (v0 v1 v2 v3 v4 v5 v6 v7 v8 v9 v10 v11 v12 : Value) (hQ : ∀ w', Keeps (· = g) w1 w' → Q (.returned (.agg #[v0, v1, v2, v3, v4, v5, v6, v7, v8, v9, v10, v11, v12])) w') : bodyPost Try.prog fn Q .ret a (((((((((((((w1.setCell ⟨g, 0, none⟩ v0).setCell ⟨g, 1, none⟩ v1).setCell ⟨g, 2, none⟩ v2).setCell ⟨g, 3, none⟩ v3).setCell ⟨g, 4, none⟩ v4).setCell ⟨g, 5, none⟩ v5).setCell ⟨g, 6, none⟩ v6).setCell ⟨g, 7, none⟩ v7).setCell ⟨g, 8, none⟩ v8).setCell ⟨g, 9, none⟩ v9).setCell ⟨g, 10, none⟩ v10).setCell ⟨g, 11, none⟩ v11).setCell ⟨g, 12, none⟩ v12) := by
  obtain ⟨h1, h2⟩ := op_set hc hb v0 v1 v2 v3 v4 v5 v6 v7 v8 v9 v10 v11 v12
  exact op_ret1 q hfn h1 ha hd (hQ _ h2)
theorem op_end2 {Q : Ending → World → Prop} {a : Act} {w1 : World} {g : Nat} {c : Array Value} {t : TypeId} {fn : Func} (hfn : fn.results = #[.cell 4 119, .tmp 5]) (hc : c.size = 13) (hb : w1.heap[g]? = some (.cells c t (0, 0)))
    (ha : a.tmps.getD 4 undef = .pointer (some ⟨g, 0, none⟩)) (hd : a.defers = []) (v0 v1 v2 v3 v4 v5 v6 v7 v8 v9 v10 v11 v12 : Value) (hQ : ∀ w', Keeps (· = g) w1 w' → Q (.returned (.tuple #[.agg #[v0, v1, v2, v3, v4, v5, v6, v7, v8, v9, v10, v11, v12], a.tmps.getD 5 undef])) w') : bodyPost Try.prog fn Q .ret a (((((((((((((w1.setCell ⟨g, 0, none⟩ v0).setCell ⟨g, 1, none⟩ v1).setCell ⟨g, 2, none⟩ v2).setCell ⟨g, 3, none⟩ v3).setCell ⟨g, 4, none⟩ v4).setCell ⟨g, 5, none⟩ v5).setCell ⟨g, 6, none⟩ v6).setCell ⟨g, 7, none⟩ v7).setCell ⟨g, 8, none⟩ v8).setCell ⟨g, 9, none⟩ v9).setCell ⟨g, 10, none⟩ v10).setCell ⟨g, 11, none⟩ v11).setCell ⟨g, 12, none⟩ v12) := by
  obtain ⟨h1, h2⟩ := op_set hc hb v0 v1 v2 v3 v4 v5 v6 v7 v8 v9 v10 v11 v12
  exact op_ret2 hfn h1 ha hd (hQ _ h2)

theorem opend_any (code v : Int) (w : World) : Calls Try.prog 80 #[.int .i64 code, .int .i64 v] w fun e w' => e = .returned (OpS.ended code v).value ∧ Keeps None w w' := by
  go_enter Try.func80, Try.ntmps80
  go_wp2
  exact op_ret1 4 rfl (new_at w _ _ rfl) rfl rfl ⟨rfl, Keeps.alloc None w _⟩
theorem top_any (n m : Int) (w : World) : Calls Try.prog 51 #[.agg #[.int .i64 n, .int .i64 m]] w fun e w' => e = .returned (.int .i64 (wrap64 n)) ∧ Keeps None w w' := by
  go_enter Try.func51, Try.ntmps51
  go_wp2
  go_ret
  exact ⟨by simp, Keeps.alloc None w _⟩
theorem bottom_any (n m : Int) (w : World) : Calls Try.prog 52 #[.agg #[.int .i64 n, .int .i64 m]] w fun e w' => e = .returned (.int .i64 (wrap64 (n + 1))) ∧ Keeps None w w' := by
  go_enter Try.func52, Try.ntmps52
  go_wp2
  go_ret
  exact ⟨by simp, Keeps.alloc None w _⟩
theorem bufw_any (n m : Int) (w : World) : Calls Try.prog 45 #[.agg #[.int .i64 n, .int .i64 m]] w fun e w' => e = .returned (.int .i64 (wrap64 (n + 2))) ∧ Keeps None w w' := by
  go_enter Try.func45, Try.ntmps45
  go_wp2
  go_ret
  exact ⟨by simp, Keeps.alloc None w _⟩
/-- Where a buffer has an element. -/
def placeV (a c i : Int) : Int := wrap64 (wrap64 (a + 1) + modV i c)
theorem place_any (a c i : Int) (hc : c ≤ 9223372036854775807) (w : World) : Calls Try.prog 53 #[.int .i64 a, .int .i64 c, .int .i64 i] w fun e w' => e = .returned (.int .i64 (placeV a c i)) ∧ w' = w := by
  have hm := mod_any i c
  have E : Hid (∀ a : Int, wrap64 (wrap64 (a + 1) + modV i c) = placeV a c i) := fun a => rfl
  generalize modV i c = r at hm E
  go_enter Try.func53, Try.ntmps53
  go_wp2_with fail
  refine (hm _ hc).mono ?_
  rintro e w' ⟨rfl, hw⟩
  have hw2 := hw.symm
  subst hw2
  clear hw
  go_wp2_with fail
  go_ret
  exact ⟨by rw [← E.out]; rfl, rfl⟩
end Go.Proofs.Ytaeooljfilkaeaa
/-! An access of an arena by the machine, whatever the address. -/
namespace Go.Proofs.Ytaeooljfilkaeaa
open Go.RowKit Go.HeapKit Go.IntWalk

theorem arf_load (p : Nat) (F : Nat → Prop) (A : Ar) (x : Int) (w : World) (h : ArF w p F A) (hlog : A.log.length < 1000000000000) :
    Calls Try.prog 100 #[.pointer (some ⟨p, 0, none⟩), .int .i64 x] w fun e w' => e = .returned (.tuple #[.int .i64 (A.did 0 x 0 0).1.v, .int .i64 (A.did 0 x 0 0).1.err]) ∧ AA w w' p F (A.did 0 x 0 0).2 := by
  obtain ⟨vc, vl, h, rfl⟩ := h
  refine (load_did p vc vl A x 0 0 w h hlog).mono ?_
  rintro e w' ⟨rfl, hA⟩
  exact ⟨rfl, AA.of hA⟩
theorem arf_put (p : Nat) (F : Nat → Prop) (A : Ar) (x v : Int) (w : World) (h : ArF w p F A) (hlog : A.log.length < 1000000000000) :
    Calls Try.prog 103 #[.pointer (some ⟨p, 0, none⟩), .int .i64 x, .int .i64 v] w fun e w' => e = .returned (.int .i64 (A.did 1 x v 0).1.err) ∧ AA w w' p F (A.did 1 x v 0).2 := by
  obtain ⟨vc, vl, h, rfl⟩ := h
  refine (store_did p vc vl A x v 0 w h hlog).mono ?_
  rintro e w' ⟨rfl, hA⟩
  exact ⟨rfl, AA.of hA⟩
theorem arf_cas (p : Nat) (F : Nat → Prop) (A : Ar) (x o v : Int) (w : World) (h : ArF w p F A) (hlog : A.log.length < 1000000000000) :
    Calls Try.prog 99 #[.pointer (some ⟨p, 0, none⟩), .int .i64 x, .int .i64 o, .int .i64 v] w fun e w' => e = .returned (.tuple #[.bool (A.did 2 x o v).1.ok, .int .i64 (A.did 2 x o v).1.err]) ∧ AA w w' p F (A.did 2 x o v).2 := by
  obtain ⟨vc, vl, h, rfl⟩ := h
  refine (cas_did p vc vl A x o v w h hlog).mono ?_
  rintro e w' ⟨rfl, hA⟩
  exact ⟨rfl, AA.of hA⟩
theorem arf_more (p : Nat) (F : Nat → Prop) (A : Ar) (n : Int) (w : World) (h : ArF w p F A) (hlog : A.log.length < 1000000000000) :
    Calls Try.prog 102 #[.pointer (some ⟨p, 0, none⟩), .int .i64 n] w fun e w' => e = .returned (.tuple #[.int .i64 (A.did 4 0 n 0).1.v, .int .i64 (A.did 4 0 n 0).1.err]) ∧ AA w w' p F (A.did 4 0 n 0).2 := by
  obtain ⟨vc, vl, h, rfl⟩ := h
  refine (reserve_did p vc vl A 4 0 n 0 (by simp [Other]) w h hlog).mono ?_
  rintro e w' ⟨rfl, hA⟩
  exact ⟨rfl, AA.of hA⟩
theorem meth3_load (p : Nat) (w : World) : (method 277 58 (.pointer (some ⟨p, 0, none⟩)) "Load").run Try.prog w = .ok (100, .pointer (some ⟨p, 0, none⟩)) w := by kernel_rfl
theorem meth3_cas (p : Nat) (w : World) : (method 277 58 (.pointer (some ⟨p, 0, none⟩)) "CAS").run Try.prog w = .ok (99, .pointer (some ⟨p, 0, none⟩)) w := by kernel_rfl
theorem nil3_load (p : Nat) (w : World) : (nilAhead 277 58 (.pointer (some ⟨p, 0, none⟩)) "Load").run Try.prog w = .ok (some false) w := by kernel_rfl
theorem nil3_cas (p : Nat) (w : World) : (nilAhead 277 58 (.pointer (some ⟨p, 0, none⟩)) "CAS").run Try.prog w = .ok (some false) w := by kernel_rfl
end Go.Proofs.Ytaeooljfilkaeaa
