import Derived.Test.YtpjmakbbakmhoaaPlaysList
/-! The moves that touch a cell or reserve. -/
namespace Go.Proofs.Ytpjmakbbakmhoaa
open Go.RowKit Go.HeapKit

theorem act_one (s k x a b : Int) (w : World) : Calls Try.prog 56 #[.agg #[.int .i64 s, .int .i64 k, .int .i64 x, .int .i64 a, .int .i64 b]] w fun e w' =>
    e = .returned (.agg #[.int .i64 0, .int .i64 k, .int .i64 x, .int .i64 a, .int .i64 b]) ∧ Keeps None w w' := by
  go_enter Try.func56, Try.ntmps56
  go_wp2
  refine bodyPost_ret (results_row (q := 2) (ty := 70) rfl rfl (run_loadVar_row _ (w.heap.size + 1) 70 70 _ _ _ (new_at _ _ _ (by simp)) Try.underlying70 rfl (by kernel_rfl))) rfl ?_
  exact ⟨rfl, ((Keeps.refl _ _).andAlloc _).andAlloc _⟩

theorem did_log (A : Ar) (k x a b : Int) : (A.did k x a b).2.log.length ≤ A.log.length + 1 := by
  unfold Ar.did Ar.noted Ar.put Ar.more
  repeat' split
  all_goals simp
theorem played_do {w w1 w2 w3 w4 w5 : World} {av : Value} {r pb : Nat} {F G H : Nat → Prop} {A B : Ar} {nN nA : Nat} {vr lr : Value} (hp : Pr w av r F G A) (hb : Bk w pb H nN nA) (hrf : IsRef w r vr lr A) (hG : G = Foot r vr lr) (hk1 : Keeps None w w1) (hA : AAfter w1 w2 av F B) (hk3 : Keeps None w2 w3)
    (hR : RAfter w3 w4 r vr lr B) (hk5 : Keeps None w4 w5) (hl : B.log.length ≤ A.log.length + 1) : PlaysPost w w5 av r pb F G H A nN nA := by
  subst hG
  obtain ⟨ha, -, ho⟩ := hp
  obtain ⟨F', hA', hk2, hm⟩ := hA
  obtain ⟨vr', lr', hr', hk4, mc, ml⟩ := hR
  have s1 := hk1.size
  have s2 := hk2.size
  have s3 := hk3.size
  have hr2 : IsRef w2 r vr lr A := (hrf.kept hk1 (fun _ _ f => f)).kept hk2 (fun k g f => ho k f g)
  have hnew : ∀ k, F' k → ¬ Foot r vr lr k := fun k f g => by
    rcases hm k f with f | f
    · exact ho k f g
    · have := hrf.foot_lt g; omega
  have hb1 := hb.kept hk1 (fun _ _ f => f)
  have hb2 := hb1.kept hk2 (fun k f => hb1.off_ar (ha.kept hk1 (fun _ _ f => f)) f)
  have hb4 := (hb2.kept hk3 (fun _ _ f => f)).kept hk4 (fun k f e => hb2.off_ref hr2 f e)
  have hA4 := (hA'.kept hk3 (fun _ _ f => f)).kept hk4 (fun k f e => hnew k f e)
  refine ⟨F', _, H, B, nN, nA, ⟨hA4.kept hk5 (fun _ _ f => f), ⟨vr', lr', hr'.kept hk5 (fun _ _ f => f), rfl⟩, ?_⟩, hb4.kept hk5 (fun _ _ f => f), ((((hk1.mono (fun _ f _ => f.elim)).trans hk2 (fun i f _ => .inl f)).trans hk3 (fun _ f _ => f.elim)).trans hk4 (fun i f _ => .inr (.inl f))).trans hk5 (fun _ f _ => f.elim), ?_, hl, by omega, by omega⟩
  · intro k f g
    rcases moved_foot mc ml k g with g | g
    · exact hnew k f g
    · have := hA'.lt f; omega
  · intro k f
    rcases f with f | f | f
    · rcases hm k f with f | f
      · exact .inl f
      · exact .inr (.inr (.inr (by omega)))
    · rcases moved_foot mc ml k f with g | g
      · exact .inr (.inl g)
      · exact .inr (.inr (.inr (by omega)))
    · exact .inr (.inr (.inl f))

set_option maxHeartbeats 4000000 in
set_option maxRecDepth 100000 in
theorem plays_do (av : Value) (r pb : Nat) (F G H : Nat → Prop) (A : Ar) (nN nA : Nat) (s k x a b : Int) (h0 : 0 ≤ k) (h4 : k ≤ 4) (w : World) (hp : Pr w av r F G A) (hb : Bk w pb H nN nA) (hl : A.log.length ≤ 2097152) :
    Calls Try.prog 27 #[av, .pointer (some ⟨r, 0, none⟩), .agg #[.int .i64 s, .int .i64 k, .int .i64 x, .int .i64 a, .int .i64 b], .pointer (some ⟨pb, 0, none⟩)] w fun e w' => e = .returned (.bool true) ∧ PlaysPost w w' av r pb F G H A nN nA := by
  obtain ⟨vr, lr, hr, hG⟩ := hp.rf
  have HH : Hid (Pr w av r F G A ∧ Bk w pb H nN nA ∧ IsRef w r vr lr A ∧ G = Foot r vr lr) := ⟨hp, hb, hr, hG⟩
  have hlog := did_log A k x a b
  have hcall := ar_done av F A s k x a b _ (hp.ar.kept (Keeps.alloc None w (.cells #[.int .i64 s, .int .i64 k, .int .i64 x, .int .i64 a, .int .i64 b] 62)) (fun _ _ f => f)) (by omega)
  have hdo : ∀ w, IsRef w r vr lr A → _ := fun w h => do_any r vr lr A 0 k x a b w h (by omega) ⟨h0, h4⟩
  generalize A.did k x a b = D at hlog hcall hdo
  obtain ⟨⟨v, ok, err⟩, B⟩ := D
  simp only [Eff.value] at hlog hcall hdo
  clear hp hb hr hG
  go_enter Try.func27, Try.ntmps27
  go_wp2_with fail
  refine hcall.mono ?_
  rintro e w2 ⟨rfl, hA⟩
  have hkA := hA.choose_spec.2.1
  have hr2 : IsRef w2 r vr lr A := (HH.out.2.2.1.kept (Keeps.alloc None w _) (fun _ _ f => f)).kept hkA (fun k g f => HH.out.1.off k f (by rw [HH.out.2.2.2]; exact g))
  have hm := (hkA.block w.heap.size (by simp) (fun f => by have := HH.out.1.ar.lt f; omega)).trans (new_at w _ _ rfl)
  have s2 := hkA.size
  simp only [World.size_alloc] at s2
  have hkg := Keeps.alloc None w2 (.cells #[.int .i64 v, .bool ok, .int .i64 err] 45)
  have hm := (hkg.block w.heap.size (by omega) (fun f => f)).trans hm
  have m0 := (cell_of_block hm 0).trans rfl
  have m1 := (cell_of_block hm 1).trans rfl
  have m2 := (cell_of_block hm 2).trans rfl
  have m3 := (cell_of_block hm 3).trans rfl
  have m4 := (cell_of_block hm 4).trans rfl
  have HA : Hid _ := hA
  have HR : Hid (IsRef w2 r vr lr A) := hr2
  have HM : Hid (Keeps None w (w.alloc (.cells #[.int .i64 s, .int .i64 k, .int .i64 x, .int .i64 a, .int .i64 b] 62))) := Keeps.alloc None w _
  have HG : Hid _ := hkg
  clear hA hkA hr2 hm hcall hkg
  go_wp2_with fail
  refine (act_one s k x a b _).mono ?_
  rintro e w3 ⟨rfl, hk3⟩
  have hk23 := HG.out.trans hk3 (fun _ f _ => f)
  have hr3 := HR.out.kept hk23 (fun _ _ f => f)
  have hg3 := (hk3.block w2.heap.size (by simp) (fun f => f)).trans (new_at w2 _ _ rfl)
  have hd3 := hdo w3 hr3
  have HX : Hid _ := And.intro hk23 (And.intro hr3 hg3)
  clear m0 m1 m2 m3 m4 hk3 hk23 hr3 hg3 hdo
  go_wp2_with fail
  refine hd3.mono ?_
  rintro e w4 ⟨rfl, hR⟩
  have hk4 := hR.choose_spec.choose_spec.2.1
  have s3 := HX.out.1.size
  have hg4 := (hk4.block w2.heap.size (Array.getElem?_eq_some_iff.1 HX.out.2.2).1 (fun f => by have := HR.out.foot_lt f; omega)).trans HX.out.2.2
  have hkw := Keeps.alloc None w4 (.cells #[.int .i64 v, .bool ok, .int .i64 err] 45)
  have hg4 := (hkw.block w2.heap.size (Array.getElem?_eq_some_iff.1 hg4).1 (fun f => f)).trans hg4
  have g0 := (cell_of_block hg4 0).trans rfl
  have g1 := (cell_of_block hg4 1).trans rfl
  have g2 := (cell_of_block hg4 2).trans rfl
  have HY : Hid _ := And.intro hR hkw
  clear hR hk4 hg4 hd3 hkw
  go_wp2
  go_ret
  exact ⟨rfl, played_do HH.out.1 HH.out.2.1 HH.out.2.2.1 HH.out.2.2.2 HM.out HA.out HX.out.1 HY.out.1 HY.out.2 hlog⟩
end Go.Proofs.Ytpjmakbbakmhoaa
