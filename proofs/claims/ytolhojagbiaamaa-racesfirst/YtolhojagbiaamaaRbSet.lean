import Derived.Test.YtolhojagbiaamaaRcGrow
import Derived.Test.YtolhojagbiaamaaRbPlain3
/-! Sets of tasks in memory: root, parallel. -/
namespace Go.Proofs.Ytolhojagbiaamaa
set_option linter.unusedVariables false
set_option maxRecDepth 20000
set_option linter.unusedSimpArgs false
open Go.RowKit Go.HeapKit

/-- Ways up to a root. -/
structure Fo (U : List Nat) (rt d : Nat → Nat) : Prop where
  up : ∀ x, x < U.length → U.getD x 0 < U.length
  fix : ∀ x, x < U.length → U.getD x 0 = x → rt x = x
  mv : ∀ x, x < U.length → U.getD x 0 ≠ x → d (U.getD x 0) < d x ∧ rt (U.getD x 0) = rt x
  root : ∀ x, x < U.length → rt x < U.length ∧ U.getD (rt x) 0 = rt x
theorem getD_set (U : List Nat) (x v y : Nat) (hx : x < U.length) : (U.set x v).getD y 0 = if y = x then v else U.getD y 0 := by
  rw [List.getD_eq_getElem?_getD, List.getD_eq_getElem?_getD, List.getElem?_set]
  by_cases h : y = x
  · subst h; simp [hx]
  · rw [if_neg (fun e => h e.symm), if_neg h]
/-- A way is made shorter. -/
theorem Fo.half {U : List Nat} {rt d : Nat → Nat} (h : Fo U rt d) {x : Nat} (hx : x < U.length) (hne : U.getD x 0 ≠ x) : Fo (U.set x (U.getD (U.getD x 0) 0)) rt d ∧ d (U.getD (U.getD x 0) 0) < d x ∧ rt (U.getD (U.getD x 0) 0) = rt x := by
  obtain ⟨m1, m2⟩ := h.mv x hx hne
  have hy := h.up x hx
  have hz : d (U.getD (U.getD x 0) 0) ≤ d (U.getD x 0) ∧ rt (U.getD (U.getD x 0) 0) = rt (U.getD x 0) := by
    by_cases e : U.getD (U.getD x 0) 0 = U.getD x 0
    · rw [e]; exact ⟨Nat.le_refl _, rfl⟩
    · obtain ⟨a1, a2⟩ := h.mv _ hy e
      exact ⟨by omega, a2⟩
  have hd : d (U.getD (U.getD x 0) 0) < d x := by omega
  have hr : rt (U.getD (U.getD x 0) 0) = rt x := hz.2.trans m2
  refine ⟨⟨?_, ?_, ?_, ?_⟩, hd, hr⟩
  · intro y hy'
    rw [List.length_set] at hy' ⊢
    rw [getD_set _ _ _ _ hx]
    split
    · exact h.up _ (h.up x hx)
    · exact h.up y hy'
  · intro y hy' e
    rw [List.length_set] at hy'
    rw [getD_set _ _ _ _ hx] at e
    split at e
    · rename_i h1
      subst h1
      rw [e] at hd
      omega
    · exact h.fix y hy' e
  · intro y hy' e
    rw [List.length_set] at hy'
    rw [getD_set _ _ _ _ hx] at e ⊢
    split
    · rename_i h1; subst h1; exact ⟨hd, hr⟩
    · rename_i h1; rw [if_neg h1] at e; exact h.mv y hy' e
  · intro y hy'
    rw [List.length_set] at hy' ⊢
    obtain ⟨r1, r2⟩ := h.root y hy'
    refine ⟨r1, ?_⟩
    rw [getD_set _ _ _ _ hx]
    split
    · rename_i h1
      exfalso
      rw [h1] at r2
      exact hne r2
    · exact r2
theorem natZ_lenB (L : List Nat) : (natZ L).length = L.length := by simp [natZ]
/-- Bools of the call's own. -/
def bvs (l : List Bool) : List Value := l.map Value.bool
/-- The sets in memory, at a place of a block. -/
structure SetM (w : World) (base S o : Nat) (U : List Nat) (M : List Bool) (A : List Int) (gu cu gm cm gl cl : Nat) : Prop where
  c0 : w.cell? ⟨S, o, none⟩ = some (.slice (some ⟨gu, 0, none⟩) U.length cu)
  c1 : w.cell? ⟨S, o + 1, none⟩ = some (.slice (some ⟨gm, 0, none⟩) U.length cm)
  c2 : w.cell? ⟨S, o + 2, none⟩ = some (.slice (some ⟨gl, 0, none⟩) U.length cl)
  ru : RowZ w base (.slice (some ⟨gu, 0, none⟩) U.length cu) (natZ U)
  rm : w.ownsRow base 4 1 (.slice (some ⟨gm, 0, none⟩) U.length cm) U.length (bvs M)
  rl : RowZ w base (.slice (some ⟨gl, 0, none⟩) U.length cl) A
  lm : M.length = U.length
  la : A.length = U.length
  ne : gu ≠ gl
  blk : ∃ c t, w.heap[S]? = some (.cells c t (0, 0)) ∧ t ≠ 3 ∧ t ≠ 4
section
variable {w w' : World} {base S o gu cu gm cm gl cl : Nat} {U : List Nat} {M : List Bool} {A : List Int}
theorem SetM.ublk (h : SetM w base S o U M A gu cu gm cm gl cl) : ∃ cur, w.heap[gu]? = some (.cells cur 3 (0, 0)) := own_block h.ru rfl
theorem SetM.lblk (h : SetM w base S o U M A gu cu gm cm gl cl) : ∃ cur, w.heap[gl]? = some (.cells cur 3 (0, 0)) := own_block h.rl rfl
theorem SetM.mblk (h : SetM w base S o U M A gu cu gm cm gl cl) : ∃ cur, w.heap[gm]? = some (.cells cur 4 (0, 0)) := own_block h.rm rfl
theorem ne_of_types {w : World} {p q : Nat} {c c' : Array Value} {t t' : TypeId} {f f' : Nat × Nat} (hp : w.heap[p]? = some (.cells c t f)) (hq : w.heap[q]? = some (.cells c' t' f')) (ht : t ≠ t') : p ≠ q := by
  intro e
  subst e
  rw [hp] at hq
  injection hq with hq
  injection hq with _ hq
  exact ht hq
theorem SetM.neS (h : SetM w base S o U M A gu cu gm cm gl cl) : S ≠ gu ∧ S ≠ gm ∧ S ≠ gl ∧ gm ≠ gu ∧ gm ≠ gl := by
  obtain ⟨c, t, h1, h2, h3⟩ := h.blk
  obtain ⟨_, hu⟩ := h.ublk
  obtain ⟨_, hl⟩ := h.lblk
  obtain ⟨_, hm⟩ := h.mblk
  exact ⟨ne_of_types h1 hu h2, ne_of_types h1 hm h3, ne_of_types h1 hl h2, ne_of_types hm hu (by decide), ne_of_types hm hl (by decide)⟩
theorem SetM.kept {P : Nat → Prop} (h : SetM w base S o U M A gu cu gm cm gl cl) (hk : Keeps P w w') (h0 : ¬ P S) (h1 : ¬ P gu) (h2 : ¬ P gm) (h3 : ¬ P gl) : SetM w' base S o U M A gu cu gm cm gl cl := by
  obtain ⟨c, t, b1, b2, b3⟩ := h.blk
  exact ⟨hk.cell h.c0 h0, hk.cell h.c1 h0, hk.cell h.c2 h0, h.ru.kept hk (fun g e => by simp [Value.ownBlock] at e; subst e; exact h1), row_kept h.rm hk (fun g e => by simp [Value.ownBlock] at e; subst e; exact h2), h.rl.kept hk (fun g e => by simp [Value.ownBlock] at e; subst e; exact h3), h.lm, h.la, h.ne, c, t, blk_kept b1 hk h0, b2, b3⟩
theorem SetM.more (h : SetM w base S o U M A gu cu gm cm gl cl) (hk : Keeps None w w') : SetM w' base S o U M A gu cu gm cm gl cl := h.kept hk (fun f => f) (fun f => f) (fun f => f) (fun f => f)
theorem SetM.uat (h : SetM w base S o U M A gu cu gm cm gl cl) {x : Nat} (hx : x < U.length) : w.cell? ⟨gu, x, none⟩ = some (.int .i64 (U.getD x 0 : Nat)) ∧ w.frozen? ⟨gu, x, none⟩ = false := by
  have hr := h.ru
  rw [← natZ_lenB U] at hr
  obtain ⟨h1, h2, _⟩ := RowZ.at (k := x) (x := ((U.getD x 0 : Nat) : Int)) hr (by simp [natZ, List.getD_eq_getElem?_getD, hx])
  exact ⟨h1, h2⟩
/-- One of the ways up is another one. -/
theorem SetM.putU (h : SetM w base S o U M A gu cu gm cm gl cl) (x v : Nat) : SetM (w.setCell ⟨gu, x, none⟩ (.int .i64 v)) base S o (U.set x v) M A gu cu gm cm gl cl ∧ Keeps (· = gu) w (w.setCell ⟨gu, x, none⟩ (.int .i64 v)) := by
  have hk : Keeps (· = gu) w (w.setCell ⟨gu, x, none⟩ (.int .i64 v)) := keeps_one (Keeps.refl _ _) _
  obtain ⟨n1, n2, n3, n4, n5⟩ := h.neS
  obtain ⟨c, t, b1, b2, b3⟩ := h.blk
  have hr := h.ru
  rw [← natZ_lenB U] at hr
  have hp := RowZ.put (k := x) hr (v : Int)
  have e : (natZ U).set x (v : Int) = natZ (U.set x v) := by simp [natZ, List.map_set]
  rw [e, natZ_lenB] at hp
  refine ⟨⟨?_, ?_, ?_, ?_, ?_, ?_, by rw [List.length_set]; exact h.lm, by rw [List.length_set]; exact h.la, h.ne, c, t, blk_kept b1 hk n1, b2, b3⟩, hk⟩
  · rw [List.length_set]; exact hk.cell h.c0 n1
  · rw [List.length_set]; exact hk.cell h.c1 n1
  · rw [List.length_set]; exact hk.cell h.c2 n1
  · rw [List.length_set]; exact hp
  · rw [List.length_set]; exact row_kept h.rm hk (fun g e => by simp [Value.ownBlock] at e; subst e; exact n4)
  · rw [List.length_set]; exact h.rl.kept hk (fun g e => by simp [Value.ownBlock] at e; subst e; exact fun e => h.ne e.symm)
end
set_option maxHeartbeats 1600000 in
theorem root_ok (w : World) (base S o gu cu gm cm gl cl t : Nat) (U : List Nat) (M : List Bool) (A : List Int) (rt d : Nat → Nat) (h : SetM w base S o U M A gu cu gm cm gl cl) (hF : Fo U rt d) (ht : t < U.length) (hn : U.length ≤ 5000) :
    Calls Try.prog 64 #[.pointer (some ⟨S, o, none⟩), .int .i64 t] w fun e w' => e = .returned (.int .i64 (rt t : Nat)) ∧ (∃ U', SetM w' base S o U' M A gu cu gm cm gl cl ∧ Fo U' rt d ∧ U'.length = U.length) ∧ Keeps (· = gu) w w' := by
  have H0 : Hid (SetM w base S o U M A gu cu gm cm gl cl ∧ Fo U rt d) := ⟨h, hF⟩
  obtain ⟨T, hT⟩ : ∃ T, T = U.length := ⟨_, rfl⟩
  have HT : Hid (T = U.length) := hT
  rw [← hT] at ht hn
  clear h hF hT
  go_enter Try.func64, Try.ntmps64
  go_wp2_with fail
  go_loopw [1] (fun s1 wr => ∃ (x : Nat) (U' : List Nat), x < T ∧ s1 = .int .i64 x ∧ SetM wr base S o U' M A gu cu gm cm gl cl ∧ Fo U' rt d ∧ U'.length = T ∧ rt x = rt t ∧ Keeps (· = gu) w wr) (fun s1 _ => d (intOf s1).toNat)
  case atStart => exact ⟨t, U, ht, rfl, H0.out.1, H0.out.2, HT.out.symm, rfl, Keeps.refl _ _⟩
  case round =>
    clear H0
    obtain ⟨x, U', hx, rfl, hM, hF, hl, hrt, hkp⟩ := hrel
    have hxU : x < U'.length := by omega
    have c0 := hM.c0
    rw [hl] at c0
    obtain ⟨y, hy⟩ : ∃ y, y = U'.getD x 0 := ⟨_, rfl⟩
    obtain ⟨uy, uf⟩ := hM.uat hxU
    rw [← hy] at uy
    have hyT : y < T := by rw [hy, ← hl]; exact hF.up x hxU
    have i1 : (x : Int) < (T : Int) := by omega
    by_cases hyx : y = x
    · have HN : Hid (rt t = x ∧ (∃ U', SetM wr base S o U' M A gu cu gm cm gl cl ∧ Fo U' rt d ∧ U'.length = T) ∧ Keeps (· = gu) w wr) := ⟨by rw [← hrt]; exact hF.fix x hxU (by rw [← hy]; exact hyx), ⟨U', hM, hF, hl⟩, hkp⟩
      subst hyx
      clear hM hF hl hrt hkp hy
      go_wp2
      go_ret
      refine ⟨by rw [HN.out.1]; rfl, ?_, HN.out.2.2⟩
      obtain ⟨U2, a1, a2, a3⟩ := HN.out.2.1
      exact ⟨U2, a1, a2, a3.trans HT.out⟩
    · obtain ⟨z, hz⟩ : ∃ z, z = U'.getD y 0 := ⟨_, rfl⟩
      obtain ⟨uz, _⟩ := hM.uat (x := y) (by omega)
      rw [← hz] at uz
      obtain ⟨f1, f2, f3⟩ := hF.half hxU (by rw [← hy]; exact hyx)
      rw [← hy, ← hz] at f1 f2 f3
      have hzT : z < T := by rw [hz, ← hl]; exact hF.up y (by omega)
      obtain ⟨hM2, hk2⟩ := hM.putU x z
      have i2 : (y : Int) < (T : Int) := by omega
      have i3 : ¬ (y : Int) = (x : Int) := by omega
      have HN : Hid (SetM ((wr.setCell ⟨gu, x, none⟩ (.int .i64 z)).drew) base S o (U'.set x z) M A gu cu gm cm gl cl ∧ Fo (U'.set x z) rt d ∧ (U'.set x z).length = T ∧ rt z = rt t ∧ Keeps (· = gu) w ((wr.setCell ⟨gu, x, none⟩ (.int .i64 z)).drew) ∧ d z < d x) := ⟨hM2.more (Keeps.drew None _), f1, by rw [List.length_set]; exact hl, f3.trans hrt, (hkp.trans hk2 (fun _ e _ => e)).andDrew, f2⟩
      have u2 : (wr.setCell ⟨gu, x, none⟩ (.int .i64 z)).drew.cell? ⟨gu, x, none⟩ = some (.int .i64 z) := by
        have := ((hM2.more (Keeps.drew None _)).uat (x := x) (by rw [List.length_set]; omega)).1
        rw [getD_set _ _ _ _ hxU, if_pos rfl] at this
        exact this
      have c2 : (wr.setCell ⟨gu, x, none⟩ (.int .i64 z)).drew.cell? ⟨S, o, none⟩ = some (.slice (some ⟨gu, 0, none⟩) T cu) := by
        have := (hM2.more (Keeps.drew None _)).c0
        rw [List.length_set, hl] at this
        exact this
      clear hM hF hl hrt hkp hy hz f1 f2 f3 hM2 hk2 hxU hyx
      go_wp2_with fail
      go_cut [1] (fun s1 wx => s1 = .int .i64 x ∧ wx = (wr.setCell ⟨gu, x, none⟩ (.int .i64 z)).drew)
      case first =>
        go_region
        go_wp2_with fail
        go_meet
        exact ⟨rfl, rfl⟩
      case rest =>
      obtain ⟨rfl, hwc⟩ := hcut
      have hwc' := hwc.symm
      subst hwc'
      obtain ⟨W, hW⟩ : ∃ W, W = (wr.setCell ⟨gu, x, none⟩ (.int .i64 z)).drew := ⟨_, rfl⟩
      rw [← hW] at u2 c2 HN ⊢
      clear hW uy uf uz c0
      go_wp2
      go_roundw
      case rel => exact ⟨z, U'.set x z, hzT, rfl, HN.out.1, HN.out.2.1, HN.out.2.2.1, HN.out.2.2.2.1, HN.out.2.2.2.2.1⟩
      case measure => simp [intOf]; exact HN.out.2.2.2.2.2
end Go.Proofs.Ytolhojagbiaamaa
