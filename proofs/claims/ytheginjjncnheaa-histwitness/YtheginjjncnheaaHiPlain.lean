import Derived.Test.YtheginjjncnheaaHiHeld
import Derived.Deep.QuietTactic
import Derived.BigQuiet
/-! The plain deque of package hist: push, pop, steal, answer. -/
namespace Go.Proofs.Ytheginjjncnheaa
set_option linter.unusedVariables false
set_option maxRecDepth 20000
open Go.RowKit Go.HeapKit

def PAfter (w w' : World) (p most : Nat) (v : Value) (zs' : List Int) : Prop := ∃ v', IsPlain w' p most v' zs' ∧ Keeps (PFoot p v) w w' ∧ Moved w v v'
theorem PAfter.same {w w' : World} {p most : Nat} {v : Value} {zs : List Int} (h : IsPlain w p most v zs) (hk : Keeps None w w') : PAfter w w' p most v zs :=
  ⟨v, h.kept hk (fun _ _ f => f), hk.mono (fun _ f _ => f.elim), .refl _ _⟩
theorem PAfter.put {w : World} {p most : Nat} {v v' : Value} {zs zs' : List Int} (h : IsPlain w p most v zs) (hh : Held w v' zs') (hm : Moved w v v') : PAfter w (w.setCell ⟨p, 1, none⟩ v') p most v zs' :=
  ⟨v', h.put hh, Keeps.setCell (S := PFoot p v) w (a := ⟨p, 1, none⟩) (.inl rfl) _, hm⟩

theorem push_full (p most : Nat) (v : Value) (zs : List Int) (x : Int) (w : World) (h : IsPlain w p most v zs) (hf : most ≤ zs.length) (hs : zs.length ≤ 1000000) :
    Calls Try.prog 31 #[.pointer (some ⟨p, 0, none⟩), .int .i64 x] w fun e w' => e = .returned (.int .i64 3) ∧ PAfter w w' p most v zs := by
  obtain ⟨ao, cap, rfl, -⟩ := h.held.shape
  have HH : Hid (IsPlain w p most (.slice ao zs.length cap) zs) := h
  have c0 := h.c0
  have c1 := h.c1
  have i1 : (most : Int) ≤ (zs.length : Int) := by omega
  clear h
  generalize zs.length = n at *
  go_enter Try.func31, Try.ntmps31
  go_wp2
  go_quiet (fail)
  go_wp2
  go_ret
  exact ⟨rfl, PAfter.same HH.out ⟨rfl, rfl, rfl, Nat.le_refl _, fun _ _ _ => rfl⟩⟩
set_option maxRecDepth 20000 in
theorem push_ok (p most : Nat) (v : Value) (zs : List Int) (x : Int) (w : World) (h : IsPlain w p most v zs) (hf : ¬ most ≤ zs.length) (hs : zs.length ≤ 1000000) :
    Calls Try.prog 31 #[.pointer (some ⟨p, 0, none⟩), .int .i64 x] w fun e w' => e = .returned (.int .i64 2) ∧ PAfter w w' p most v (zs ++ [x]) := by
  obtain ⟨ao, cap, rfl, -⟩ := h.held.shape
  have HH : Hid (IsPlain w p most (.slice ao zs.length cap) zs) := h
  have c0 := h.c0
  have c1 := h.c1
  have i1 : ¬ (most : Int) ≤ (zs.length : Int) := by omega
  obtain ⟨n, hn⟩ : ∃ n, n = zs.length := ⟨_, rfl⟩
  have HL : Hid (zs.length = n) := hn.symm
  rw [← hn] at c1 i1 HH hs hf ⊢
  clear h hn
  go_enter Try.func31, Try.ntmps31
  go_wp2
  go_quiet (fail)
  have hD : Keeps None w (w.drewN nq) := ⟨rfl, rfl, rfl, Nat.le_refl _, fun _ _ _ => rfl⟩
  have h2 := HH.out.kept hD (fun _ _ f => f)
  obtain ⟨v', w2, hr0, hh, hk, hm⟩ := held_more (.slice ao n cap) zs x 28 (w.drewN nq) h2.held (by rw [HL.out]; exact hs)
  obtain ⟨v'', hv'', ha⟩ : ∃ v'' : Option Addr × Nat × Nat, v' = .slice v''.1 v''.2.1 v''.2.2 ∧ True := by obtain ⟨a', c', e, -⟩ := hh.shape; exact ⟨(a', _, c'), e, trivial⟩
  obtain ⟨a', n', c'⟩ := v''
  subst hv''
  have hr : (Builtin.append_ #[28, 28] 28 #[.slice ao n cap, .slice (some ⟨w.heap.size, 0, none⟩) 1 1]).run Try.prog ((w.drewN nq).alloc (.cells #[.int .i64 x] 2)) = .ok (.slice a' n' c') w2 := hr0
  have d1 : w2.cell? ⟨p, 1, none⟩ = some (.slice ao n cap) := hk.cell h2.c1 h2.ne
  have f1 : w2.frozen? ⟨p, 1, none⟩ = false := (World.frozen?_of_block (hk.block p h2.lt h2.ne)).trans (h2.free 1)
  have HN : Hid (PAfter w (w2.setCell ⟨p, 1, none⟩ (.slice a' n' c')) p most (.slice ao n cap) (zs ++ [x])) := by
    have hb2 : w2.heap[p]? = some (.cells #[.int .i64 most, .slice ao n cap] 47 (0, 0)) := (hk.block p h2.lt h2.ne).trans h2.blk
    refine ⟨.slice a' n' c', ⟨by rw [blk_set hb2]; rfl, hh.kept (Keeps.setCell (S := (· = p)) w2 (a := ⟨p, 1, none⟩) rfl _) (fun g hg e => ?_)⟩, (hD.mono (fun _ f _ => f.elim)).trans ((hk.mono (T := PFoot p (.slice ao n cap)) (fun _ e _ => .inr e)).trans (Keeps.setCell (S := PFoot p (.slice ao n cap)) w2 (a := ⟨p, 1, none⟩) (.inl rfl) _) (fun _ e _ => e)) (fun _ e _ => e), ?_⟩
    · subst e
      obtain ⟨cur, hc⟩ := hh.type hg
      rw [hb2] at hc
      simp at hc
    · rcases hm with hm | ⟨g, e, hg⟩
      · exact .inl hm
      · exact .inr ⟨g, e, hg⟩
  clear hr0 hh hk hm h2 hD HH HL
  go_wp2_with (at_builtin; refine wpList_append_run rfl (.tmp 19) (.tmp 21) 28 28 rfl rfl rfl hr ?_)
  go_ret
  exact ⟨rfl, HN.out⟩
theorem pop_none (p most : Nat) (v : Value) (w : World) (h : IsPlain w p most v []) :
    Calls Try.prog 32 #[.pointer (some ⟨p, 0, none⟩)] w fun e w' => e = .returned (.tuple #[.int .i64 5, .int .i64 0]) ∧ PAfter w w' p most v [] := by
  obtain ⟨ao, cap, rfl, -⟩ := h.held.shape
  have HH : Hid (IsPlain w p most (.slice ao 0 cap) []) := h
  have c1 : w.cell? ⟨p, 1, none⟩ = some (.slice ao 0 cap) := h.c1
  clear h
  go_enter Try.func32, Try.ntmps32
  go_wp2
  go_ret2
  exact ⟨rfl, PAfter.same HH.out (Keeps.refl _ _)⟩
theorem steal_none (p most : Nat) (v : Value) (w : World) (h : IsPlain w p most v []) :
    Calls Try.prog 33 #[.pointer (some ⟨p, 0, none⟩)] w fun e w' => e = .returned (.tuple #[.int .i64 5, .int .i64 0]) ∧ PAfter w w' p most v [] := by
  obtain ⟨ao, cap, rfl, -⟩ := h.held.shape
  have HH : Hid (IsPlain w p most (.slice ao 0 cap) []) := h
  have c1 : w.cell? ⟨p, 1, none⟩ = some (.slice ao 0 cap) := h.c1
  clear h
  go_enter Try.func33, Try.ntmps33
  go_wp2
  go_ret2
  exact ⟨rfl, PAfter.same HH.out (Keeps.refl _ _)⟩
theorem pop_ok (p most : Nat) (v : Value) (zs : List Int) (z : Int) (w : World) (h : IsPlain w p most v (zs ++ [z])) (hs : zs.length ≤ 1000000) :
    Calls Try.prog 32 #[.pointer (some ⟨p, 0, none⟩)] w fun e w' => e = .returned (.tuple #[.int .i64 4, .int .i64 z]) ∧ PAfter w w' p most v zs := by
  obtain ⟨g, off, cap, rfl, hc, hz⟩ := h.held.at (i := zs.length) (z := z) (by simp)
  rw [show (zs ++ [z]).length = zs.length + 1 by simp] at h hc
  have c1 := h.c1
  have f1 := h.free 1
  have HN : Hid (PAfter w (w.setCell ⟨p, 1, none⟩ (.slice (some ⟨g, off, none⟩) zs.length cap)) p most (.slice (some ⟨g, off, none⟩) (zs.length + 1) cap) zs) :=
    PAfter.put h (by have := h.held.init (by simp); simpa using this) (.inl rfl)
  clear h
  rw [show (zs ++ [z]).length = zs.length + 1 by simp]
  generalize zs.length = n at *
  go_enter Try.func32, Try.ntmps32
  go_wp2
  go_ret2
  exact ⟨rfl, HN.out⟩
theorem steal_ok (p most : Nat) (v : Value) (zs : List Int) (z : Int) (w : World) (h : IsPlain w p most v (z :: zs)) (hs : zs.length ≤ 1000000) :
    Calls Try.prog 33 #[.pointer (some ⟨p, 0, none⟩)] w fun e w' => e = .returned (.tuple #[.int .i64 4, .int .i64 z]) ∧ PAfter w w' p most v zs := by
  obtain ⟨g, off, cap, rfl, hc, hz⟩ := h.held.at (i := 0) (z := z) (by simp)
  simp only [List.length_cons, Nat.add_zero] at h hc hz
  have c1 := h.c1
  have f1 := h.free 1
  by_cases hcap : cap = 1
  · subst hcap
    have hz0 : zs = [] := by cases zs with
      | nil => rfl
      | cons a b => simp at hc
    subst hz0
    have HN : Hid (PAfter w (w.setCell ⟨p, 1, none⟩ (.slice (some ⟨g, off, none⟩) 0 0)) p most (.slice (some ⟨g, off, none⟩) 1 1) []) := PAfter.put h h.held.none (.inl rfl)
    clear h
    simp only [List.length_nil, Nat.zero_add] at *
    go_enter Try.func33, Try.ntmps33
    go_wp2
    go_ret2
    exact ⟨rfl, HN.out⟩
  · have HN : Hid (PAfter w (w.setCell ⟨p, 1, none⟩ (.slice (some ⟨g, off + 1, none⟩) zs.length (cap - 1))) p most (.slice (some ⟨g, off, none⟩) (zs.length + 1) cap) zs) := PAfter.put h (h.held.tail rfl) (.inl rfl)
    clear h
    simp only [List.length_cons]
    generalize zs.length = n at *
    go_enter Try.func33, Try.ntmps33
    go_wp2
    go_ret2
    exact ⟨rfl, HN.out⟩

/-- What the plain deque answers, and what it holds then. -/
def ansD (most : Nat) (zs : List Int) (kind arg : Int) : (Int × Int) × List Int :=
  if kind = 0 then (if most ≤ zs.length then ((3, 0), zs) else ((2, 0), zs ++ [arg]))
  else if kind = 1 then (if zs = [] then ((5, 0), []) else ((4, zs.getLastD 0), zs.dropLast))
  else match zs with
    | [] => ((5, 0), [])
    | z :: r => ((4, z), r)
theorem last_split {zs : List Int} (h : ¬ zs = []) : zs = zs.dropLast ++ [zs.getLastD 0] := by
  have := List.dropLast_concat_getLast h
  rw [List.getLastD_eq_getLast?, List.getLast?_eq_some_getLast h]
  exact this.symm
theorem answer_ok (p most : Nat) (v : Value) (zs : List Int) (kind arg : Int) (w : World) (h : IsPlain w p most v zs) (hs : zs.length ≤ 1000000) :
    Calls Try.prog 18 #[.pointer (some ⟨p, 0, none⟩), .int .i64 kind, .int .i64 arg] w fun e w' => e = .returned (.tuple #[.int .i64 (ansD most zs kind arg).1.1, .int .i64 (ansD most zs kind arg).1.2]) ∧ PAfter w w' p most v (ansD most zs kind arg).2 := by
  unfold ansD
  by_cases h0 : kind = 0
  · subst h0
    simp only [if_true]
    by_cases hf : most ≤ zs.length
    · simp only [if_pos hf]
      have hc := push_full p most v zs arg w h hf hs
      clear h hf hs
      go_enter Try.func18, Try.ntmps18
      go_wp2_with fail
      refine hc.mono ?_
      rintro e w' ⟨rfl, hA⟩
      clear hc
      go_wp2
      go_ret2
      exact ⟨rfl, hA⟩
    · simp only [if_neg hf]
      have hc := push_ok p most v zs arg w h hf hs
      clear h hf hs
      go_enter Try.func18, Try.ntmps18
      go_wp2_with fail
      refine hc.mono ?_
      rintro e w' ⟨rfl, hA⟩
      clear hc
      go_wp2
      go_ret2
      exact ⟨rfl, hA⟩
  · simp only [if_neg h0]
    have b0 : (kind == 0) = false := by simpa using h0
    by_cases h1 : kind = 1
    · subst h1
      simp only [if_true]
      by_cases hz : zs = []
      · subst hz
        simp only [if_true]
        have hc := pop_none p most v w h
        clear h hs b0 h0
        go_enter Try.func18, Try.ntmps18
        go_wp2_with fail
        refine hc.mono ?_
        rintro e w' ⟨rfl, hA⟩
        clear hc
        go_wp2
        go_ret2
        exact ⟨rfl, hA⟩
      · simp only [if_neg hz]
        have hc := pop_ok p most v zs.dropLast (zs.getLastD 0) w (by rw [← last_split hz]; exact h) (by simp; omega)
        clear h hs b0 h0 hz
        generalize zs.getLastD 0 = z at *
        generalize zs.dropLast = r at *
        go_enter Try.func18, Try.ntmps18
        go_wp2_with fail
        refine hc.mono ?_
        rintro e w' ⟨rfl, hA⟩
        clear hc
        go_wp2
        go_ret2
        exact ⟨rfl, hA⟩
    · simp only [if_neg h1]
      have b1 : (kind == 1) = false := by simpa using h1
      cases zs with
      | nil =>
        have hc := steal_none p most v w h
        clear h hs h0 h1
        go_enter Try.func18, Try.ntmps18
        go_wp2_with fail
        refine hc.mono ?_
        rintro e w' ⟨rfl, hA⟩
        clear hc
        go_wp2
        go_ret2
        exact ⟨rfl, hA⟩
      | cons z r =>
        have hc := steal_ok p most v r z w h (by simp at hs; omega)
        clear h hs h0 h1
        go_enter Try.func18, Try.ntmps18
        go_wp2_with fail
        refine hc.mono ?_
        rintro e w' ⟨rfl, hA⟩
        clear hc
        go_wp2
        go_ret2
        exact ⟨rfl, hA⟩
end Go.Proofs.Ytheginjjncnheaa
