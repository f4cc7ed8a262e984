import Derived.Test.YtpjmakbbakmhoaaPlaysWatch
/-! The moves that ask for a list. -/
namespace Go.Proofs.Ytpjmakbbakmhoaa
open Go.RowKit Go.HeapKit

theorem played_list {w w3 w4 : World} {av : Value} {r pb : Nat} {F G S : Nat → Prop} {A : Ar} {nN nA nN' nA' : Nat} {vn va vn' va' : Value} {nx nx' : Int} {xs ys xs' ys' : List Value} (hp : Pr w av r F G A) (hb : IsBook w pb vn va nx nN nA xs ys) (hk1 : Keeps None w w3)
    (hB4 : IsBook w4 pb vn' va' nx' nN' nA' xs' ys') (hk4 : Keeps S w3 w4) (hS : ∀ k, S k → BFoot pb vn va k ∨ w.heap.size ≤ k) (hm : ∀ k, BFoot pb vn' va' k → BFoot pb vn va k ∨ w.heap.size ≤ k) (h1 : nN' ≤ nN + 1) (h2 : nA' ≤ nA + 1) : PlaysPost w w4 av r pb F G (BFoot pb vn va) A nN nA := by
  have hbk : Bk w pb (BFoot pb vn va) nN nA := ⟨vn, va, nx, xs, ys, hb, rfl⟩
  have hp0 := hp
  obtain ⟨ha, ⟨vr, lr, hr, rfl⟩, ho⟩ := hp0
  refine ⟨F, _, _, A, nN', nA', (hp.kept hk1 (fun _ _ f => f)).kept hk4 ?_, ⟨vn', va', nx', xs', ys', hB4, rfl⟩, (hk1.mono (fun _ f _ => f.elim)).trans hk4 ?_, ?_, by omega, h1, h2⟩
  · intro k f s
    rcases f with f | f
    · rcases hS k s with s | s
      · exact hbk.off_ar ha s f
      · have := ha.lt f; omega
    · rcases hS k s with s | s
      · exact hbk.off_ref hr s f
      · have := hr.foot_lt f; omega
  · intro k s hlt
    rcases hS k s with s | s
    · exact .inr (.inr s)
    · omega
  · intro k f
    rcases f with f | f | f
    · exact .inl f
    · exact .inr (.inl f)
    · rcases hm k f with f | f
      · exact .inr (.inr (.inl f))
      · exact .inr (.inr (.inr f))
set_option maxHeartbeats 4000000 in
set_option maxRecDepth 100000 in
theorem plays_cells (av : Value) (r pb : Nat) (F G H : Nat → Prop) (A : Ar) (nN nA : Nat) (s x a b : Int) (w : World) (hp : Pr w av r F G A) (hb : Bk w pb H nN nA) (hN : nN ≤ 2097152) :
    Calls Try.prog 27 #[av, .pointer (some ⟨r, 0, none⟩), .agg #[.int .i64 s, .int .i64 9, .int .i64 x, .int .i64 a, .int .i64 b], .pointer (some ⟨pb, 0, none⟩)] w fun e w' => e = .returned (.bool true) ∧ PlaysPost w w' av r pb F G H A nN nA := by
  obtain ⟨vr, lr, hr, hG⟩ := hp.rf
  obtain ⟨vn, va, nx, xs, ys, hB, rfl⟩ := hb
  have hfit := hr.fit
  obtain ⟨vo, vc, rfl⟩ := own_shape hr.cells
  have HH : Hid (Pr w av r F G A ∧ IsBook w pb vn va nx nN nA xs ys) := ⟨hp, hB⟩
  have hka := Keeps.alloc None w (.cells #[.int .i64 s, .int .i64 9, .int .i64 x, .int .i64 a, .int .i64 b] 62)
  have hcall := ar_cells av F A _ (hp.ar.kept hka (fun _ _ f => f))
  have HR : Hid _ := hr
  have HK : Hid _ := hka
  clear hp hB hr hG hka
  go_enter Try.func27, Try.ntmps27
  go_wp2_with fail
  refine hcall.mono ?_
  rintro e w2 ⟨ao, rfl, ho, hk2, hf⟩
  have hk12 := HK.out.trans hk2 (fun _ f _ => f)
  have hr2 := HR.out.kept hk12 (fun _ _ f => f)
  have r1 := hr2.c1
  have hsame := sameNumbers_same _ _ A.cells w2 ho hr2.cells (by omega)
  have H2 : Hid _ := And.intro hk12 (And.intro ho hf)
  clear hcall hk2 hk12 hr2 ho hf
  go_wp2_with fail
  refine hsame.mono ?_
  rintro e w3 ⟨rfl, m, rfl⟩
  have hk13 := H2.out.1.trans (Keeps.drewN None w2 m) (fun _ f _ => f)
  have hnum := numbers_any pb vn va nx nN nA xs ys ao _ A.cells (w2.drewN m) (HH.out.2.kept hk13 (fun _ _ f => f)) ((Keeps.drewN None w2 m).own H2.out.2.1 (fun _ _ f => f)) rfl (by omega) hN
  clear hsame
  go_wp2_with fail
  refine hnum.mono ?_
  rintro e w4 ⟨rfl, v', x', hB4, hk4, hm4⟩
  have s3 := hk13.size
  have HE : Hid (PlaysPost w w4 av r pb F G (BFoot pb vn va) A nN nA) := by
    refine played_list HH.out.1 HH.out.2 hk13 hB4 hk4 ?_ ?_ (by omega) (by omega)
    · rintro k (f | f | f)
      · exact .inl (.inl f)
      · exact .inl (.inr <| .inl f)
      · exact .inr (by have h1 := HK.out.size; have := H2.out.2.2 k f; omega)
    · rintro k (f | f | f)
      · exact .inl (.inl f)
      · rcases hm4 with e | ⟨g, e, hg⟩
        · exact .inl (.inr <| .inl (e ▸ f))
        · rw [e] at f; injection f with f; exact .inr (by omega)
      · exact .inl (.inr (.inr f))
  clear hnum hB4 hk4 hm4 hk13 s3
  go_wp2
  go_ret
  exact ⟨rfl, HE.out⟩
set_option maxHeartbeats 4000000 in
set_option maxRecDepth 100000 in
theorem plays_log (av : Value) (r pb : Nat) (F G H : Nat → Prop) (A : Ar) (nN nA : Nat) (s x a b : Int) (w : World) (hp : Pr w av r F G A) (hb : Bk w pb H nN nA) (hA : nA ≤ 2097152) (hl : A.log.length ≤ 2097152) :
    Calls Try.prog 27 #[av, .pointer (some ⟨r, 0, none⟩), .agg #[.int .i64 s, .int .i64 10, .int .i64 x, .int .i64 a, .int .i64 b], .pointer (some ⟨pb, 0, none⟩)] w fun e w' => e = .returned (.bool true) ∧ PlaysPost w w' av r pb F G H A nN nA := by
  obtain ⟨vr, lr, hr, hG⟩ := hp.rf
  obtain ⟨vn, va, nx, xs, ys, hB, rfl⟩ := hb
  have hfit := hr.fit
  obtain ⟨vo, vc, rfl⟩ := own_shape hr.log
  have HH : Hid (Pr w av r F G A ∧ IsBook w pb vn va nx nN nA xs ys) := ⟨hp, hB⟩
  have hka := Keeps.alloc None w (.cells #[.int .i64 s, .int .i64 10, .int .i64 x, .int .i64 a, .int .i64 b] 62)
  have hcall := ar_log av F A _ (hp.ar.kept hka (fun _ _ f => f)) (by omega)
  have HR : Hid _ := hr
  have HK : Hid _ := hka
  clear hp hB hr hG hka
  go_enter Try.func27, Try.ntmps27
  go_wp2_with fail
  refine hcall.mono ?_
  rintro e w2 ⟨ao, rfl, ho, hk2, hf⟩
  have hk12 := HK.out.trans hk2 (fun _ f _ => f)
  have hr2 := HR.out.kept hk12 (fun _ _ f => f)
  have r1 := hr2.c4
  have hsame := sameLog_same _ _ A.log w2 ho hr2.log (by omega)
  have H2 : Hid _ := And.intro hk12 (And.intro ho hf)
  clear hcall hk2 hk12 hr2 ho hf
  go_wp2_with fail
  refine hsame.mono ?_
  rintro e w3 ⟨rfl, m, rfl⟩
  have hk13 := H2.out.1.trans (Keeps.drewN None w2 m) (fun _ f _ => f)
  have hnum := accesses_any pb vn va nx nN nA xs ys ao _ _ (w2.drewN m) (HH.out.2.kept hk13 (fun _ _ f => f)) ((Keeps.drewN None w2 m).own H2.out.2.1 (fun _ _ f => f)) (by omega) hA
  clear hsame
  go_wp2_with fail
  refine hnum.mono ?_
  rintro e w4 ⟨rfl, v', x', hB4, hk4, hm4⟩
  have s3 := hk13.size
  have HE : Hid (PlaysPost w w4 av r pb F G (BFoot pb vn va) A nN nA) := by
    refine played_list HH.out.1 HH.out.2 hk13 hB4 hk4 ?_ ?_ (by omega) (by omega)
    · rintro k (f | f | f)
      · exact .inl (.inl f)
      · exact .inl (.inr <| .inr f)
      · exact .inr (by have h1 := HK.out.size; have := H2.out.2.2 k f; omega)
    · rintro k (f | f | f)
      · exact .inl (.inl f)
      · exact .inl (.inr (.inl f))
      · rcases hm4 with e | ⟨g, e, hg⟩
        · exact .inl (.inr <| .inr (e ▸ f))
        · rw [e] at f; injection f with f; exact .inr (by omega)
  clear hnum hB4 hk4 hm4 hk13 s3
  go_wp2
  go_ret
  exact ⟨rfl, HE.out⟩
end Go.Proofs.Ytpjmakbbakmhoaa
