import Derived.Test.YtaipeclmfgdegaaRfOp2
/-! The document's ops: Step. -/
namespace Go.Proofs.Ytaipeclmfgdegaa
open Go.RowKit Go.HeapKit Go.IntWalk

def ROp.zero : ROp := ⟨0, 0, 0, 0, 0, 0, 0, 0, 0⟩
structure MidO (w wx : World) (o : ROp) (p : Nat) (F F1 : Nat → Prop) (B : Ar) : Prop where
  box : wx.heap[w.heap.size]? = some (.cells o.vals 68 (0, 0))
  res : wx.heap[w.heap.size + 1]? = some (.cells ROp.zero.vals 68 (0, 0))
  rf : RfF wx p F1 B
  kp : Keeps F w wx
  fo : ∀ k, F1 k → F k ∨ w.heap.size + 2 ≤ k
  lo : ∀ k, F k → k < w.heap.size
section
variable {w wx wy : World} {o : ROp} {p : Nat} {F F1 : Nat → Prop} {A B : Ar}
theorem MidO.start (h : RfF w p F A) (o : ROp) : MidO w ((w.alloc (.cells o.vals 68)).alloc (.cells ROp.zero.vals 68)) o p F F A :=
  ⟨(Below.heap_alloc _ _ _ (by simp)).trans (new_at w _ _ rfl), new_at _ _ _ (by simp), (h.kept (Keeps.alloc None w _) (fun _ _ f => f)).kept (Keeps.alloc None _ _) (fun _ _ f => f),
   ((Keeps.refl F w).andAlloc _).andAlloc _, fun _ f => .inl f, fun _ f => h.lt f⟩
theorem MidO.lt (h : MidO w wx o p F F1 B) : w.heap.size + 1 < wx.heap.size := (Array.getElem?_eq_some_iff.1 h.res).1
theorem MidO.off (h : MidO w wx o p F F1 B) : ¬ F1 w.heap.size ∧ ¬ F1 (w.heap.size + 1) :=
  ⟨fun f => by rcases h.fo _ f with f | f; have := h.lo _ f; omega; omega, fun f => by rcases h.fo _ f with f | f; have := h.lo _ f; omega; omega⟩
theorem MidO.kept (h : MidO w wx o p F F1 B) (hk : Keeps None wx wy) : MidO w wy o p F F1 B := by
  have := h.lt
  exact ⟨(hk.block _ (by omega) (fun f => f)).trans h.box, (hk.block _ (by omega) (fun f => f)).trans h.res, h.rf.kept hk (fun _ _ f => f), h.kp.trans hk (fun _ f _ => f.elim), h.fo, h.lo⟩
theorem MidO.acc (h : MidO w wx o p F F1 A) (h2 : RR wx wy p F1 B) : ∃ F2, MidO w wy o p F F2 B := by
  obtain ⟨F2, g, hk, hf⟩ := h2
  have := h.lt
  refine ⟨F2, (hk.block _ (by omega) h.off.1).trans h.box, (hk.block _ (by omega) h.off.2).trans h.res, g, h.kp.trans hk (fun i f hi => ?_), fun k f => ?_, h.lo⟩
  · rcases h.fo i f with f | f
    · exact f
    · omega
  · rcases hf k f with f | f
    · exact h.fo k f
    · exact .inr (by omega)
theorem MidO.fin (h : MidO w wx o p F F1 B) (hk : Keeps (· = w.heap.size + 1) wx wy) : RR w wy p F B :=
  ⟨F1, h.rf.kept hk (fun k f e => h.off.2 (e ▸ f)), h.kp.trans hk (fun i e hi => by omega), fun k f => by
    rcases h.fo k f with f | f
    · exact .inl f
    · exact .inr (by omega)⟩
end
theorem cells5 {w : World} {g : Nat} {t : TypeId} {v0 v1 v2 v3 v4 : Value} (h : w.heap[g]? = some (.cells #[v0, v1, v2, v3, v4] t (0, 0))) : w.cell? ⟨g, 0, none⟩ = some v0 ∧ w.cell? ⟨g, 1, none⟩ = some v1 ∧ w.cell? ⟨g, 2, none⟩ = some v2 ∧ w.cell? ⟨g, 3, none⟩ = some v3 ∧ w.cell? ⟨g, 4, none⟩ = some v4 :=
  ⟨cell_of_block h 0, cell_of_block h 1, cell_of_block h 2, cell_of_block h 3, cell_of_block h 4⟩
theorem rstep_ended (q : Nat) (k j c v nx fr m cd cm : Int) (w : World) (hc : ¬ cd = 0) : Calls Try.prog 26 #[.pointer (some ⟨q, 0, none⟩), (ROp.mk k j c v nx fr m cd cm).value] w fun e w' => e = .returned (ROp.mk k j c v nx fr m cd cm).value ∧ Keeps None w w' := by
  have b : (cd == 0) = false := by simpa using hc
  clear hc
  simp only [ROp.value, ROp.vals]
  go_enter Try.func26, Try.ntmps26
  go_wp2
  exact rop_ret 4 rfl (two_at w _ _).2 rfl rfl ⟨rfl, ((Keeps.refl None w).andAlloc _).andAlloc _⟩
set_option maxHeartbeats 4000000 in
set_option maxRecDepth 100000 in
theorem rstep_run (q : Nat) (G : Nat → Prop) (A : Ar) (k j c v nx fr m : Int) (w : World) (h : RfF w q G A) (hlog : A.log.length < 1000000000000) (hm0 : 0 ≤ m) (hm2 : m ≤ 2) :
    Calls Try.prog 26 #[.pointer (some ⟨q, 0, none⟩), (ROp.mk k j c v nx fr m 0 0).value] w fun e w' => e = .returned ((ROp.mk k j c v nx fr m 0 0).step A).1.value ∧ RR w w' q G ((ROp.mk k j c v nx fr m 0 0).step A).2 := by
  have hwt := want_any k j c v nx fr m 0 0
  have hk4 : 0 ≤ (ROp.mk k j c v nx fr m 0 0).want.1 ∧ (ROp.mk k j c v nx fr m 0 0).want.1 ≤ 4 := by
    unfold ROp.want
    simp only
    repeat' split
    all_goals (simp only; omega)
  have hM := MidO.start h (ROp.mk k j c v nx fr m 0 0)
  have hbe := fun n => behind_any k j c v nx fr m n
  have e0 : (ROp.mk k j c v nx fr m 0 0).step A = (if (A.did (ROp.mk k j c v nx fr m 0 0).want.1 (ROp.mk k j c v nx fr m 0 0).want.2.1 (ROp.mk k j c v nx fr m 0 0).want.2.2 0).1.err = 0 then ((ROp.mk k j c v nx fr m 0 0).behind (A.did (ROp.mk k j c v nx fr m 0 0).want.1 (ROp.mk k j c v nx fr m 0 0).want.2.1 (ROp.mk k j c v nx fr m 0 0).want.2.2 0).1.v, (A.did (ROp.mk k j c v nx fr m 0 0).want.1 (ROp.mk k j c v nx fr m 0 0).want.2.1 (ROp.mk k j c v nx fr m 0 0).want.2.2 0).2) else ((ROp.mk k j c v nx fr m 0 0).fin 1 0, (A.did (ROp.mk k j c v nx fr m 0 0).want.1 (ROp.mk k j c v nx fr m 0 0).want.2.1 (ROp.mk k j c v nx fr m 0 0).want.2.2 0).2)) := by
    unfold ROp.step
    rw [if_neg (by simp)]
  rw [e0]
  generalize (ROp.mk k j c v nx fr m 0 0).want.1 = wk at hwt hk4 ⊢
  generalize (ROp.mk k j c v nx fr m 0 0).want.2.1 = wx at hwt ⊢
  generalize (ROp.mk k j c v nx fr m 0 0).want.2.2 = wa at hwt ⊢
  have hdo := fun w1 G1 (h1 : RfF w1 q G1 A) => rf_do q G1 A 0 wk wx wa 0 w1 h1 hlog hk4
  generalize A.did wk wx wa 0 = D at hdo ⊢
  obtain ⟨⟨dv, dk, de⟩, B⟩ := D
  simp only [Eff.value] at hdo ⊢
  obtain ⟨R, hR⟩ : ∃ R, R = (if de = 0 then (ROp.mk k j c v nx fr m 0 0).behind dv else (ROp.mk k j c v nx fr m 0 0).fin 1 0) := ⟨_, rfl⟩
  have e1 : (if de = 0 then ((ROp.mk k j c v nx fr m 0 0).behind dv, B) else ((ROp.mk k j c v nx fr m 0 0).fin 1 0, B)) = (R, B) := by rw [hR]; split <;> rfl
  rw [e1]
  have HR : Hid _ := congrArg ROp.value hR
  clear e1 hR
  obtain ⟨r0, r1, r2, r3, r4, r5, r6, r7, r8⟩ := R
  simp only [ROp.value, ROp.vals] at hbe HR ⊢
  have HM : Hid _ := hM
  have HB : Hid _ := hbe
  clear h hM e0 hk4 hbe
  go_enter Try.func26, Try.ntmps26
  go_upto_region 3 with fail
  go_cut [5] (fun s5 wz => ∃ X, s5 = .pointer (some ⟨X, 0, none⟩) ∧ wz.heap[X]? = some (.cells #[.int .i64 0, .int .i64 wk, .int .i64 wx, .int .i64 wa, .int .i64 0] 54 (0, 0)) ∧ MidO w wz (ROp.mk k j c v nx fr m 0 0) q G G A)
  case first =>
    go_wp2_with fail
    refine (hwt _).mono ?_
    rintro e w1 ⟨rfl, hk1⟩
    have HM1 : Hid _ := HM.out.kept hk1
    clear hk1 hwt hdo
    go_wp2_with fail
    go_meet
    exact ⟨_, rfl, new_at w1 _ _ rfl, HM1.out.kept (Keeps.alloc None w1 _)⟩
  case rest =>
    obtain ⟨X, rfl, hX, hM1⟩ := hcut
    obtain ⟨x0, x1, x2, x3, x4⟩ := cells5 hX
    have hd1 := hdo _ _ hM1.rf
    have HM1 : Hid _ := hM1
    clear hX hM1 hdo hwt HM
    go_upto_region 4 with fail
    go_cut [6] (fun s6 wz => ∃ Y G2, s6 = .pointer (some ⟨Y, 0, none⟩) ∧ wz.cell? ⟨Y, 0, none⟩ = some (.int .i64 dv) ∧ wz.cell? ⟨Y, 2, none⟩ = some (.int .i64 de) ∧ MidO w wz (ROp.mk k j c v nx fr m 0 0) q G G2 B)
    case first =>
      go_wp2_with fail
      refine hd1.mono ?_
      rintro e w2 ⟨rfl, hA2⟩
      have HA2 : Hid _ := hA2
      clear hA2 hd1 x0 x1 x2 x3 x4
      go_wp2_with fail
      go_meet
      obtain ⟨G2, hM2⟩ := HM1.out.acc HA2.out
      exact ⟨_, G2, rfl, cell_of_block (new_at w2 _ _ rfl) 0, cell_of_block (new_at w2 _ _ rfl) 2, hM2.kept (Keeps.alloc None w2 _)⟩
    case rest =>
      obtain ⟨Y, G2, rfl, y0, y2, hM2⟩ := hcut
      obtain ⟨b0, b1, b2, b3, b4, b5, b6, b7, b8⟩ := cells9 hM2.box
      have HM2 : Hid _ := hM2
      clear hM2 hd1 x0 x1 x2 x3 x4 HM1
      by_cases hde : de = 0
      · subst hde
        have hb1 := fun w => HB.out dv w hm0 hm2
        have hR := HR.out
        rw [if_pos rfl] at hR
        generalize (ROp.mk k j c v nx fr m 0 0).behind dv = S at hb1 hR
        obtain ⟨s0, s1, s2, s3, s4, s5, s6, s7, s8⟩ := S
        simp only at hb1 hR
        have HS : Hid _ := hR
        clear hR HR
        go_wp2_with fail
        refine (hb1 _).mono ?_
        rintro e w3 ⟨rfl, hk3⟩
        have hM3 := HM2.out.kept hk3
        obtain ⟨z0, z1, z2, z3, z4, z5, z6, z7, z8⟩ := cells9 hM3.res
        obtain ⟨f0, f1, f2, f3, f4, f5, f6, f7, f8⟩ := free9 hM3.res
        have HM3 : Hid _ := hM3
        clear hk3 hM3 b0 b1 b2 b3 b4 b5 b6 b7 b8 y0 y2 hb1 HB HM2
        go_wp2
        exact rop_end 4 rfl rfl HM3.out.res rfl rfl _ _ _ _ _ _ _ _ _ (fun w' hk => ⟨congrArg Ending.returned HS.out.symm, HM3.out.fin hk⟩)
      · have b : (de == 0) = false := by simpa using hde
        have hR := HR.out
        rw [if_neg hde] at hR
        simp only [ROp.fin] at hR
        have HS : Hid _ := hR
        clear hde HB hR HR
        go_wp2_with fail
        refine (fin_any k j c v nx fr m 0 0 1 0 _).mono ?_
        rintro e w3 ⟨rfl, hk3⟩
        have hM3 := HM2.out.kept hk3
        obtain ⟨z0, z1, z2, z3, z4, z5, z6, z7, z8⟩ := cells9 hM3.res
        obtain ⟨f0, f1, f2, f3, f4, f5, f6, f7, f8⟩ := free9 hM3.res
        have HM3 : Hid _ := hM3
        clear hk3 hM3 b0 b1 b2 b3 b4 b5 b6 b7 b8 y0 y2 HM2
        go_wp2
        exact rop_end 4 rfl rfl HM3.out.res rfl rfl _ _ _ _ _ _ _ _ _ (fun w' hk => ⟨congrArg Ending.returned HS.out.symm, HM3.out.fin hk⟩)
end Go.Proofs.Ytaipeclmfgdegaa
