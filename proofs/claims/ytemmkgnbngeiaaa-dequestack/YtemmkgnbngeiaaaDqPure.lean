import Derived.Test.YtemmkgnbngeiaaaDqWhole
import Derived.Test.YtemmkgnbngeiaaaDqCells
/-! The deque, plainly: calls one behind the other. -/
namespace Go.Proofs.Ytemmkgnbngeiaaa
open Go.RowKit Go.HeapKit Go.IntWalk Go.PlainOps

theorem did_load {A : Ar} {k : Nat} (hon : A.on = false) (hk : k < A.cells.length) : A.did 0 (k : Int) 0 0 = (⟨A.val k, true, 0⟩, A) := by
  have hh : A.has (k : Int) = true := by simp [Ar.has]; omega
  simp [Ar.did, hh, Ar.noted, hon]
theorem did_store {A : Ar} {k : Nat} {v : Int} (hon : A.on = false) (hk : k < A.cells.length) : A.did 1 (k : Int) v 0 = (⟨0, true, 0⟩, A.put k v) := by
  have hh : A.has (k : Int) = true := by simp [Ar.has]; omega
  have h2 : (A.put k v).on = false := hon
  simp [Ar.did, hh, Ar.noted, h2]
theorem did_cas {A : Ar} {k : Nat} {v : Int} (hon : A.on = false) (hk : k < A.cells.length) : A.did 2 (k : Int) (A.val k) v = (⟨0, true, 0⟩, A.put k v) := by
  have hh : A.has (k : Int) = true := by simp [Ar.has]; omega
  have h2 : (A.put k v).on = false := hon
  simp [Ar.did, hh, Ar.noted, h2]
theorem did_more {A : Ar} {n : Nat} (hon : A.on = false) (hn : 0 < n) (hf : A.cells.length + n ≤ A.size) : A.did 4 0 (n : Int) 0 = (⟨A.cells.length, true, 0⟩, A.more n) := by
  have h2 : (A.more n).on = false := hon
  have h3 : ¬ (n : Int) < 1 := by omega
  have h4 : ¬ (A.size : Int) - A.cells.length < n := by omega
  simp [Ar.did, h3, h4, Ar.noted, h2]
theorem step_by {o : OpS} {A B : Ar} {x : Int} {k y z u : Int} {ok : Bool} (h0 : ¬ o.at_ = 0) (h1 : ¬ o.at_ = 1) (hw : o.want = (k, y, z, u)) (hd : A.did k y z u = (⟨x, ok, 0⟩, B)) : o.step A = (o.went x ok, B) := by
  rw [OpS.step_run h0 h1]
  simp only [OpS.acc, hw, hd]
  rfl

/-- From one machine to another, in so many steps. -/
inductive Goes : OpS → Ar → Nat → OpS → Ar → Prop
  | done (o : OpS) (A : Ar) : Goes o A 0 o A
  | next {o o1 o2 : OpS} {A A1 A2 : Ar} {n : Nat} (hf : o.Fit) (hl : A.log.length < 1000000000000) (hs : o.step A = (o1, A1)) (h : Goes o1 A1 n o2 A2) : Goes o A (n + 1) o2 A2
theorem Goes.trans {o o1 o2 : OpS} {A A1 A2 : Ar} {n m : Nat} (h : Goes o A n o1 A1) (k : Goes o1 A1 m o2 A2) : Goes o A (m + n) o2 A2 := by
  induction h with
  | done o A => exact k
  | next hf hl hs _ ih => exact .next hf hl hs (ih k)
theorem OpS.run_front (o : OpS) (A : Ar) : ∀ n, o.run A (n + 1) = (o.step A).1.run (o.step A).2 n
  | 0 => rfl
  | n + 1 => by
    show (o.run A (n + 1)).1.step (o.run A (n + 1)).2 = _
    rw [OpS.run_front o A n]
    rfl
/-- A machine that comes to its end within n steps. -/
theorem Goes.ends {o o' : OpS} {A A' : Ar} {n : Nat} (h : Goes o A n o' A') (he : o'.at_ = 1) (hf' : o'.Fit) (hl' : A'.log.length < 1000000000000) :
    ∀ N, n ≤ N → o.run A N = (o', A') ∧ ∀ k, k ≤ N → (o.run A k).1.Fit ∧ (o.run A k).2.log.length < 1000000000000 := by
  induction h with
  | done o A =>
    intro N _
    have hr : ∀ k, o.run A k = (o, A) := fun k => by
      have := OpS.run_stop (o := o) (A := A) (k := 0) (.inr he) k
      rw [Nat.zero_add] at this
      exact this
    exact ⟨hr N, fun k _ => by rw [hr k]; exact ⟨hf', hl'⟩⟩
  | next hf hl hs _ ih =>
    rename_i o o1 o2 A A1 A2 n _
    intro N hN
    obtain ⟨h1, h2⟩ := ih he hf' hl' (N - 1) (by omega)
    have hfr : ∀ k, o.run A (k + 1) = o1.run A1 k := fun k => by rw [OpS.run_front, hs]
    refine ⟨?_, fun k hk => ?_⟩
    · rw [show N = (N - 1) + 1 by omega, hfr]; exact h1
    · match k with
      | 0 => exact ⟨hf, hl⟩
      | k + 1 => rw [hfr]; exact h2 k (by omega)
end Go.Proofs.Ytemmkgnbngeiaaa
