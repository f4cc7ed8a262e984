import Derived.Test.YtpjmakbbakmhoaaPairWalks
import Derived.Test.YtpjmakbbakmhoaaBookAccess
/-! A move on an arena and on the document's. -/
namespace Go.Proofs.Ytpjmakbbakmhoaa
open Go.RowKit Go.HeapKit

def BFoot (pb : Nat) (vn va : Value) (k : Nat) : Prop := k = pb ∨ vn.ownBlock = some k ∨ va.ownBlock = some k
structure Pr (w : World) (av : Value) (r : Nat) (F G : Nat → Prop) (A : Ar) : Prop where
  ar : IsAr w av F A
  rf : ∃ vr lr, IsRef w r vr lr A ∧ G = Foot r vr lr
  off : ∀ k, F k → ¬ G k
def Bk (w : World) (pb : Nat) (H : Nat → Prop) (nN nA : Nat) : Prop := ∃ vn va nx xs ys, IsBook w pb vn va nx nN nA xs ys ∧ H = BFoot pb vn va
def PlaysPost (w w' : World) (av : Value) (r pb : Nat) (F G H : Nat → Prop) (A : Ar) (nN nA : Nat) : Prop :=
  ∃ F' G' H' A' nN' nA', Pr w' av r F' G' A' ∧ Bk w' pb H' nN' nA' ∧ Keeps (fun k => F k ∨ G k ∨ H k) w w' ∧ (∀ k, F' k ∨ G' k ∨ H' k → F k ∨ G k ∨ H k ∨ w.heap.size ≤ k) ∧
    A'.log.length ≤ A.log.length + 1 ∧ nN' ≤ nN + 1 ∧ nA' ≤ nA + 1

theorem Pr.kept {w w' : World} {av : Value} {r : Nat} {F G S : Nat → Prop} {A : Ar} (h : Pr w av r F G A) (hk : Keeps S w w') (hS : ∀ k, F k ∨ G k → ¬ S k) : Pr w' av r F G A := by
  obtain ⟨ha, ⟨vr, lr, hr, rfl⟩, ho⟩ := h
  exact ⟨ha.kept hk (fun k f => hS k (.inl f)), ⟨vr, lr, hr.kept hk (fun k f => hS k (.inr f)), rfl⟩, ho⟩
theorem Bk.kept {w w' : World} {pb nN nA : Nat} {H S : Nat → Prop} (h : Bk w pb H nN nA) (hk : Keeps S w w') (hS : ∀ k, H k → ¬ S k) : Bk w' pb H nN nA := by
  obtain ⟨vn, va, nx, xs, ys, hb, rfl⟩ := h
  exact ⟨vn, va, nx, xs, ys, hb.kept hk hS, rfl⟩
theorem PlaysPost.quiet {w w' : World} {av : Value} {r pb : Nat} {F G H : Nat → Prop} {A : Ar} {nN nA : Nat} (hp : Pr w av r F G A) (hb : Bk w pb H nN nA) (hk : Keeps None w w') : PlaysPost w w' av r pb F G H A nN nA :=
  ⟨F, G, H, A, nN, nA, hp.kept hk (fun _ _ f => f), hb.kept hk (fun _ _ f => f), hk.mono (fun _ f _ => f.elim), fun k f => by rcases f with f | f | f; exact .inl f; exact .inr (.inl f); exact .inr (.inr (.inl f)), by omega, by omega, by omega⟩

set_option maxHeartbeats 4000000 in
set_option maxRecDepth 100000 in
theorem plays_size (av : Value) (r pb : Nat) (F G H : Nat → Prop) (A : Ar) (nN nA : Nat) (s x a b : Int) (w : World) (hp : Pr w av r F G A) (hb : Bk w pb H nN nA) :
    Calls Try.prog 27 #[av, .pointer (some ⟨r, 0, none⟩), .agg #[.int .i64 s, .int .i64 7, .int .i64 x, .int .i64 a, .int .i64 b], .pointer (some ⟨pb, 0, none⟩)] w fun e w' => e = .returned (.bool true) ∧ PlaysPost w w' av r pb F G H A nN nA := by
  obtain ⟨vr, lr, hr, -⟩ := hp.rf
  have HH : Hid (Pr w av r F G A ∧ Bk w pb H nN nA) := ⟨hp, hb⟩
  have HC : Hid (IsAr (w.alloc (.cells #[.int .i64 s, .int .i64 7, .int .i64 x, .int .i64 a, .int .i64 b] 62)) av F A) := (hp.ar.kept (Keeps.alloc None w _) (fun _ _ f => f))
  have r0 := (hr.alloc (.cells #[.int .i64 s, .int .i64 7, .int .i64 x, .int .i64 a, .int .i64 b] 62)).c0
  clear hp hb hr
  go_enter Try.func27, Try.ntmps27
  go_wp2_with fail
  go_region_held3 (fun w' => w'.cell? ⟨r, 0, none⟩ = some (.int .i64 A.size)) (go_keep) (first | (go_at_call 57; refine (ar_size av F A _ (IsAr.kept HC.out (by first | exact Keeps.refl None _ | exact Keeps.drewN None _ _ | exact Keeps.drew None _) (fun _ _ f => f))).mono ?_; rintro e w' ⟨rfl, hw⟩; have hw2 := hw.symm; subst hw2; clear hw))
  all_goals go_wp2
  all_goals go_ret
  all_goals exact ⟨rfl, PlaysPost.quiet HH.out.1 HH.out.2 ((Keeps.alloc None w _).trans (Keeps.drew None _) (fun _ f _ => f))⟩
set_option maxHeartbeats 4000000 in
set_option maxRecDepth 100000 in
theorem plays_mark (av : Value) (r pb : Nat) (F G H : Nat → Prop) (A : Ar) (nN nA : Nat) (s x a b : Int) (w : World) (hp : Pr w av r F G A) (hb : Bk w pb H nN nA) :
    Calls Try.prog 27 #[av, .pointer (some ⟨r, 0, none⟩), .agg #[.int .i64 s, .int .i64 8, .int .i64 x, .int .i64 a, .int .i64 b], .pointer (some ⟨pb, 0, none⟩)] w fun e w' => e = .returned (.bool true) ∧ PlaysPost w w' av r pb F G H A nN nA := by
  obtain ⟨vr, lr, hr, -⟩ := hp.rf
  obtain ⟨ao, ca, rfl⟩ := own_shape hr.cells
  have HH : Hid (Pr w av r F G A ∧ Bk w pb H nN nA) := ⟨hp, hb⟩
  have HC : Hid (IsAr (w.alloc (.cells #[.int .i64 s, .int .i64 8, .int .i64 x, .int .i64 a, .int .i64 b] 62)) av F A) := (hp.ar.kept (Keeps.alloc None w _) (fun _ _ f => f))
  have r0 := (hr.alloc (.cells #[.int .i64 s, .int .i64 8, .int .i64 x, .int .i64 a, .int .i64 b] 62)).c1
  clear hp hb hr
  go_enter Try.func27, Try.ntmps27
  go_wp2_with fail
  go_region_held3 (fun w' => w'.cell? ⟨r, 1, none⟩ = some (.slice ao A.cells.length ca)) (go_keep) (first | (go_at_call 58; refine (ar_mark av F A _ (IsAr.kept HC.out (by first | exact Keeps.refl None _ | exact Keeps.drewN None _ _ | exact Keeps.drew None _) (fun _ _ f => f))).mono ?_; rintro e w' ⟨rfl, hw⟩; have hw2 := hw.symm; subst hw2; clear hw))
  all_goals go_wp2
  all_goals go_ret
  all_goals exact ⟨rfl, PlaysPost.quiet HH.out.1 HH.out.2 ((Keeps.alloc None w _).trans (Keeps.drew None _) (fun _ f _ => f))⟩
set_option maxHeartbeats 4000000 in
set_option maxRecDepth 100000 in
theorem plays_other (av : Value) (r pb : Nat) (F G H : Nat → Prop) (A : Ar) (nN nA : Nat) (s k x a b : Int) (hk : ¬ (0 ≤ k ∧ k ≤ 4)) (k5 : (k == 5) = false) (k6 : (k == 6) = false) (k7 : (k == 7) = false) (k8 : (k == 8) = false) (k9 : (k == 9) = false) (k10 : (k == 10) = false) (w : World) (hp : Pr w av r F G A) (hb : Bk w pb H nN nA) :
    Calls Try.prog 27 #[av, .pointer (some ⟨r, 0, none⟩), .agg #[.int .i64 s, .int .i64 k, .int .i64 x, .int .i64 a, .int .i64 b], .pointer (some ⟨pb, 0, none⟩)] w fun e w' => e = .returned (.bool true) ∧ PlaysPost w w' av r pb F G H A nN nA := by
  have HH : Hid (Pr w av r F G A ∧ Bk w pb H nN nA) := ⟨hp, hb⟩
  clear hp hb
  by_cases h0 : 0 ≤ k
  · have h4 : ¬ k ≤ 4 := fun h => hk ⟨h0, h⟩
    clear hk
    go_enter Try.func27, Try.ntmps27
    go_wp2
    go_ret
    exact ⟨rfl, PlaysPost.quiet HH.out.1 HH.out.2 (Keeps.alloc None w _)⟩
  · clear hk
    go_enter Try.func27, Try.ntmps27
    go_wp2
    go_ret
    exact ⟨rfl, PlaysPost.quiet HH.out.1 HH.out.2 (Keeps.alloc None w _)⟩
end Go.Proofs.Ytpjmakbbakmhoaa
