import Derived.Test.YtpjmakbbakmhoaaPlaysSet
/-! The move that watches. -/
namespace Go.Proofs.Ytpjmakbbakmhoaa
open Go.RowKit Go.HeapKit

theorem mod2w (x : Int) (w : World) : Calls Try.prog 26 #[.int .i64 x, .int .i64 2] w fun e w' => e = .returned (.int .i64 (x % 2)) ∧ w' = w := mod_any x 2 (by decide) (by decide) w
set_option maxHeartbeats 4000000 in
set_option maxRecDepth 100000 in
theorem plays_watch0 (av : Value) (r pb : Nat) (F G H : Nat → Prop) (A : Ar) (nN nA : Nat) (s x a b : Int) (hmod : ∀ w, Calls Try.prog 26 #[.int .i64 a, .int .i64 2] w fun e w' => e = .returned (.int .i64 0) ∧ w' = w) (w : World) (hp : Pr w av r F G A) (hb : Bk w pb H nN nA) :
    Calls Try.prog 27 #[av, .pointer (some ⟨r, 0, none⟩), .agg #[.int .i64 s, .int .i64 5, .int .i64 x, .int .i64 a, .int .i64 b], .pointer (some ⟨pb, 0, none⟩)] w fun e w' => e = .returned (.bool true) ∧ PlaysPost w w' av r pb F G H A nN nA := by
  obtain ⟨vr, lr, hr, hG⟩ := hp.rf
  have HH : Hid (Pr w av r F G A ∧ Bk w pb H nN nA ∧ IsRef w r vr lr A ∧ G = Foot r vr lr) := ⟨hp, hb, hr, hG⟩
  have hcall := ar_watch av F A false _ (hp.ar.kept (Keeps.alloc None w (.cells #[.int .i64 s, .int .i64 5, .int .i64 x, .int .i64 a, .int .i64 b] 62)) (fun _ _ f => f))
  clear hp hb hr hG
  go_enter Try.func27, Try.ntmps27
  go_wp2_with fail
  refine (hmod _).mono ?_
  rintro e w' ⟨rfl, hw⟩
  have hw2 := hw.symm
  subst hw2
  clear hw
  go_wp2_with fail
  refine hcall.mono ?_
  rintro e w2 ⟨rfl, hA⟩
  have hkA := hA.choose_spec.2.1
  have hr2 : IsRef w2 r vr lr A := (HH.out.2.2.1.kept (Keeps.alloc None w _) (fun _ _ f => f)).kept hkA (fun k g f => HH.out.1.off k f (by rw [HH.out.2.2.2]; exact g))
  have hm := (hkA.block w.heap.size (by simp) (fun f => by have := HH.out.1.ar.lt f; omega)).trans (new_at w _ _ rfl)
  have m2 := (cell_of_block hm 3).trans rfl
  have r3 := hr2.c2
  have q3 := hr2.free 2
  have HA : Hid _ := hA
  have HM : Hid (Keeps None w (w.alloc (.cells #[.int .i64 s, .int .i64 5, .int .i64 x, .int .i64 a, .int .i64 b] 62))) := Keeps.alloc None w _
  clear hA hkA hr2 hm hcall
  go_wp2_with fail
  refine (hmod _).mono ?_
  rintro e w' ⟨rfl, hw⟩
  have hw2 := hw.symm
  subst hw2
  clear hw
  go_wp2
  go_ret
  exact ⟨rfl, played_set HH.out.1 HH.out.2.1 HM.out HA.out (Keeps.setCell (S := (· = r)) w2 (a := ⟨r, 2, none⟩) rfl _) (fun vr lr h => ref_field 2 (.bool false) h rfl rfl rfl rfl) (by simp)⟩
set_option maxHeartbeats 4000000 in
set_option maxRecDepth 100000 in
theorem plays_watch1 (av : Value) (r pb : Nat) (F G H : Nat → Prop) (A : Ar) (nN nA : Nat) (s x a b : Int) (hmod : ∀ w, Calls Try.prog 26 #[.int .i64 a, .int .i64 2] w fun e w' => e = .returned (.int .i64 1) ∧ w' = w) (w : World) (hp : Pr w av r F G A) (hb : Bk w pb H nN nA) :
    Calls Try.prog 27 #[av, .pointer (some ⟨r, 0, none⟩), .agg #[.int .i64 s, .int .i64 5, .int .i64 x, .int .i64 a, .int .i64 b], .pointer (some ⟨pb, 0, none⟩)] w fun e w' => e = .returned (.bool true) ∧ PlaysPost w w' av r pb F G H A nN nA := by
  obtain ⟨vr, lr, hr, hG⟩ := hp.rf
  have HH : Hid (Pr w av r F G A ∧ Bk w pb H nN nA ∧ IsRef w r vr lr A ∧ G = Foot r vr lr) := ⟨hp, hb, hr, hG⟩
  have hcall := ar_watch av F A true _ (hp.ar.kept (Keeps.alloc None w (.cells #[.int .i64 s, .int .i64 5, .int .i64 x, .int .i64 a, .int .i64 b] 62)) (fun _ _ f => f))
  clear hp hb hr hG
  go_enter Try.func27, Try.ntmps27
  go_wp2_with fail
  refine (hmod _).mono ?_
  rintro e w' ⟨rfl, hw⟩
  have hw2 := hw.symm
  subst hw2
  clear hw
  go_wp2_with fail
  refine hcall.mono ?_
  rintro e w2 ⟨rfl, hA⟩
  have hkA := hA.choose_spec.2.1
  have hr2 : IsRef w2 r vr lr A := (HH.out.2.2.1.kept (Keeps.alloc None w _) (fun _ _ f => f)).kept hkA (fun k g f => HH.out.1.off k f (by rw [HH.out.2.2.2]; exact g))
  have hm := (hkA.block w.heap.size (by simp) (fun f => by have := HH.out.1.ar.lt f; omega)).trans (new_at w _ _ rfl)
  have m2 := (cell_of_block hm 3).trans rfl
  have r3 := hr2.c2
  have q3 := hr2.free 2
  have HA : Hid _ := hA
  have HM : Hid (Keeps None w (w.alloc (.cells #[.int .i64 s, .int .i64 5, .int .i64 x, .int .i64 a, .int .i64 b] 62))) := Keeps.alloc None w _
  clear hA hkA hr2 hm hcall
  go_wp2_with fail
  refine (hmod _).mono ?_
  rintro e w' ⟨rfl, hw⟩
  have hw2 := hw.symm
  subst hw2
  clear hw
  go_wp2
  go_ret
  exact ⟨rfl, played_set HH.out.1 HH.out.2.1 HM.out HA.out (Keeps.setCell (S := (· = r)) w2 (a := ⟨r, 2, none⟩) rfl _) (fun vr lr h => ref_field 2 (.bool true) h rfl rfl rfl rfl) (by simp)⟩
theorem plays_watch (av : Value) (r pb : Nat) (F G H : Nat → Prop) (A : Ar) (nN nA : Nat) (s x a b : Int) (w : World) (hp : Pr w av r F G A) (hb : Bk w pb H nN nA) :
    Calls Try.prog 27 #[av, .pointer (some ⟨r, 0, none⟩), .agg #[.int .i64 s, .int .i64 5, .int .i64 x, .int .i64 a, .int .i64 b], .pointer (some ⟨pb, 0, none⟩)] w fun e w' => e = .returned (.bool true) ∧ PlaysPost w w' av r pb F G H A nN nA := by
  have hmod := mod2w a
  rcases (by omega : a % 2 = 0 ∨ a % 2 = 1) with e | e
  · rw [e] at hmod; exact plays_watch0 av r pb F G H A nN nA s x a b hmod w hp hb
  · rw [e] at hmod; exact plays_watch1 av r pb F G H A nN nA s x a b hmod w hp hb
end Go.Proofs.Ytpjmakbbakmhoaa
