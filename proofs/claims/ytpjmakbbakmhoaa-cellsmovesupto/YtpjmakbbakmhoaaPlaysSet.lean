import Derived.Test.YtpjmakbbakmhoaaPlaysWalks
/-! The moves that set: Watch, Who. -/
namespace Go.Proofs.Ytpjmakbbakmhoaa
open Go.RowKit Go.HeapKit

theorem book_off_ar {w : World} {pb nN nA p : Nat} {vn va vc vl : Value} {nx : Int} {xs ys : List Value} {A : Ar} (hb : IsBook w pb vn va nx nN nA xs ys) (h : IsArena w p vc vl A) {k : Nat} (hk : BFoot pb vn va k) : ¬ Foot p vc vl k := by
  rintro (rfl | f | f)
  · rcases hk with rfl | hk | hk
    · have := hb.blk.symm.trans h.blk; simp at this
    · exact absurd (own_type hb.num hk h.blk) (by decide)
    · exact absurd (own_type hb.acc hk h.blk) (by decide)
  · exact hb.apart h.cells (by decide) (by decide) (by decide) hk f
  · exact hb.apart h.log (by decide) (by decide) (by decide) hk f
theorem book_off_ref {w : World} {pb nN nA p : Nat} {vn va vc vl : Value} {nx : Int} {xs ys : List Value} {A : Ar} (hb : IsBook w pb vn va nx nN nA xs ys) (h : IsRef w p vc vl A) {k : Nat} (hk : BFoot pb vn va k) : ¬ Foot p vc vl k := by
  rintro (rfl | f | f)
  · rcases hk with rfl | hk | hk
    · have := hb.blk.symm.trans h.blk; simp at this
    · exact absurd (own_type hb.num hk h.blk) (by decide)
    · exact absurd (own_type hb.acc hk h.blk) (by decide)
  · exact hb.apart h.cells (by decide) (by decide) (by decide) hk f
  · exact hb.apart h.log (by decide) (by decide) (by decide) hk f
theorem Bk.off_ar {w : World} {pb nN nA : Nat} {H F : Nat → Prop} {av : Value} {A : Ar} (hb : Bk w pb H nN nA) (h : IsAr w av F A) {k : Nat} (hk : H k) : ¬ F k := by
  obtain ⟨vn, va, nx, xs, ys, hb, rfl⟩ := hb
  rcases h with ⟨-, -, -, -, rfl⟩ | ⟨p, vc, vl, -, h, rfl⟩
  · exact fun f => f
  · exact book_off_ar hb h hk
theorem Bk.off_ref {w : World} {pb nN nA p : Nat} {H : Nat → Prop} {vc vl : Value} {A : Ar} (hb : Bk w pb H nN nA) (h : IsRef w p vc vl A) {k : Nat} (hk : H k) : ¬ Foot p vc vl k := by
  obtain ⟨vn, va, nx, xs, ys, hb, rfl⟩ := hb
  exact book_off_ref hb h hk

theorem played_set {w w1 w2 w3 : World} {av : Value} {r pb : Nat} {F G H : Nat → Prop} {A B : Ar} {nN nA : Nat} (hp : Pr w av r F G A) (hb : Bk w pb H nN nA) (hk1 : Keeps None w w1) (hA : AAfter w1 w2 av F B) (hk3 : Keeps (· = r) w2 w3)
    (hr : ∀ vr lr, IsRef w2 r vr lr A → IsRef w3 r vr lr B) (hl : B.log.length ≤ A.log.length + 1) : PlaysPost w w3 av r pb F G H A nN nA := by
  obtain ⟨ha, ⟨vr, lr, hrf, rfl⟩, ho⟩ := hp
  obtain ⟨F', hA', hk2, hm⟩ := hA
  have s1 := hk1.size
  have hr2 : IsRef w2 r vr lr A := (hrf.kept hk1 (fun _ _ f => f)).kept hk2 (fun k g f => ho k f g)
  have hnew : ∀ k, F' k → ¬ Foot r vr lr k := fun k f g => by
    rcases hm k f with f | f
    · exact ho k f g
    · have := hrf.foot_lt g; omega
  have hb1 := hb.kept hk1 (fun _ _ f => f)
  have hb2 := hb1.kept hk2 (fun k f => hb1.off_ar (ha.kept hk1 (fun _ _ f => f)) f)
  have hb3 := hb2.kept hk3 (fun k f e => hb2.off_ref hr2 f (.inl e))
  refine ⟨F', _, H, B, nN, nA, ⟨hA'.kept hk3 (fun k f e => hnew k f (.inl e)), ⟨vr, lr, hr vr lr hr2, rfl⟩, hnew⟩, hb3, ((hk1.mono (fun _ f _ => f.elim)).trans hk2 (fun i f _ => .inl f)).trans hk3 (fun i f _ => .inr (.inl (.inl f))), ?_, hl, by omega, by omega⟩
  intro k f
  rcases f with f | f | f
  · rcases hm k f with f | f
    · exact .inl f
    · exact .inr (.inr (.inr (by omega)))
  · exact .inr (.inl f)
  · exact .inr (.inr (.inl f))
theorem ref_field {w : World} {r : Nat} {vr lr : Value} {A B : Ar} (i : Nat) (v : Value) (h : IsRef w r vr lr A) (hs : (#[.int .i64 A.size, vr, .bool A.on, .int .i64 A.actor, lr] : Array Value).setIfInBounds i v = #[.int .i64 B.size, vr, .bool B.on, .int .i64 B.actor, lr]) (hc : B.cells = A.cells) (hl : B.log = A.log) (hz : B.size = A.size) :
    IsRef (w.setCell ⟨r, i, none⟩ v) r vr lr B := by
  have hk : Keeps (· = r) w (w.setCell ⟨r, i, none⟩ v) := Keeps.setCell (S := (· = r)) w (a := ⟨r, i, none⟩) rfl _
  refine ⟨by rw [setCell_block h.blk, hs], ?_, ?_, by rw [hc, hz]; exact h.fit⟩
  · rw [hc]; exact hk.own h.cells (fun k e e2 => h.ncp (e2 ▸ e))
  · rw [hl]; exact hk.own h.log (fun k e e2 => h.nlp (e2 ▸ e))

set_option maxHeartbeats 4000000 in
set_option maxRecDepth 100000 in
theorem plays_who (av : Value) (r pb : Nat) (F G H : Nat → Prop) (A : Ar) (nN nA : Nat) (s x a b : Int) (w : World) (hp : Pr w av r F G A) (hb : Bk w pb H nN nA) :
    Calls Try.prog 27 #[av, .pointer (some ⟨r, 0, none⟩), .agg #[.int .i64 s, .int .i64 6, .int .i64 x, .int .i64 a, .int .i64 b], .pointer (some ⟨pb, 0, none⟩)] w fun e w' => e = .returned (.bool true) ∧ PlaysPost w w' av r pb F G H A nN nA := by
  obtain ⟨vr, lr, hr, hG⟩ := hp.rf
  have HH : Hid (Pr w av r F G A ∧ Bk w pb H nN nA ∧ IsRef w r vr lr A ∧ G = Foot r vr lr) := ⟨hp, hb, hr, hG⟩
  have hcall := ar_who av F A x _ (hp.ar.kept (Keeps.alloc None w (.cells #[.int .i64 s, .int .i64 6, .int .i64 x, .int .i64 a, .int .i64 b] 62)) (fun _ _ f => f))
  clear hp hb hr hG
  go_enter Try.func27, Try.ntmps27
  go_wp2_with fail
  refine hcall.mono ?_
  rintro e w2 ⟨rfl, hA⟩
  have hkA := hA.choose_spec.2.1
  have hr2 : IsRef w2 r vr lr A := (HH.out.2.2.1.kept (Keeps.alloc None w _) (fun _ _ f => f)).kept hkA (fun k g f => HH.out.1.off k f (by rw [HH.out.2.2.2]; exact g))
  have hm := (hkA.block w.heap.size (by simp) (fun f => by have := HH.out.1.ar.lt f; omega)).trans (new_at w _ _ rfl)
  have m2 := (cell_of_block hm 2).trans rfl
  have r3 := hr2.c3
  have q3 := hr2.free 3
  have HA : Hid _ := hA
  have HM : Hid (Keeps None w (w.alloc (.cells #[.int .i64 s, .int .i64 6, .int .i64 x, .int .i64 a, .int .i64 b] 62))) := Keeps.alloc None w _
  clear hA hkA hr2 hm hcall
  go_wp2
  go_ret
  exact ⟨rfl, played_set HH.out.1 HH.out.2.1 HM.out HA.out (Keeps.setCell (S := (· = r)) w2 (a := ⟨r, 3, none⟩) rfl _) (fun vr lr h => ref_field 3 (.int .i64 x) h rfl rfl rfl rfl) (by simp)⟩
end Go.Proofs.Ytpjmakbbakmhoaa
