import Derived.Test.YtdiabpoafennlabPkAM
import Derived.Test.YtdiabpoafennlabPkAN
import Derived.Test.YtdiabpoafennlabPkAO
import Derived.Test.YtdiabpoafennlabPkAG
/-! Every deed of the document's run. -/
namespace Go.Proofs.Ytdiabpoafennlab.Rn
set_option linter.unusedVariables false
set_option maxRecDepth 20000
set_option linter.unusedSimpArgs false
open Go.RowKit Go.HeapKit Go.PlainOps

theorem deed_any (base pb n d nx : Nat) (K0 : RP) (X : RX) (L M R : Nat → Value) (st : List Bool) (st0 : Option Addr) (sn sc : Nat) (s : HS (List Int)) (P : List Int) (w : World) (k loc : Int) (h : PM w base pb K0 X L M R nx (psS s)) (ho : Okd n d P s) (hK : OkK K0) (hpk : K0.pk.length ≤ 1048576) (hf : Fits P) (hfx : -9223372036854775808 ≤ loc ∧ loc ≤ 9223372036854775807) (hsn : sn = st.length) (hT : SeenV w st0 sn (bv' st)) (hTl : ∀ b, blockOf st0 = some b → 0 < sn → b < base) (hn : n ≤ 4096) (hst : st.length ≤ 4096) (hk : k = 0 ∨ k = 1 ∨ k = 2 ∨ k = 3 ∨ k = 4) (hd : ¬ (k = 1 ∧ d = 0)) :
    Calls Try.prog 40 #[.pointer (some ⟨pb, 0, none⟩), .int .i64 n, .agg #[.int .i64 k, .int .i64 loc], .slice st0 sn sc] w fun e w' => e = .returned (.tuple #[]) ∧ (∃ X' L' M' R' nx', PM w' base pb K0 X' L' M' R' nx' (psS (s.deed listK st n k loc))) ∧ Keeps (fun i => base ≤ i) w w' := by
  obtain ⟨r1, r2, r3, r4⟩ := ho.rows
  have hne := ho.inv.lk.ne
  have hil : s.ini.reverse.length ≤ 4096 := by rw [List.length_reverse]; have := ho.ni; have := ho.nd; omega
  have hnv := ho.nv
  have hnt := ho.nt
  have hns := ho.ns
  have hhand : s.hand ∈ preL s.ini ++ s.m.row := by
    rw [hand_split hne]
    simp [HS.hand]
  have hfl := line_fits ho.inv.line hf hhand
  rcases hk with rfl | rfl | rfl | rfl | rfl
  · have e : s.deed listK st n 0 loc = ⟨{ s.m with row := [s.hand] }, s.spn, (s.sp, s.m.row) :: s.ini, s.spn + 1, s.lk⟩ := by simp [HS.deed]
    refine (do_spawn base pb n nx K0 X L M R (psS s) w s.ini.reverse s.sp s.m.row loc st0 sn sc h rfl hne (by omega) (by omega) s.hand rfl (by show s.spn ≤ _; omega)).mono ?_
    rintro e' w' ⟨h1, ⟨X', R', h2⟩, h3⟩
    refine ⟨h1, ⟨X', L, M, R', nx, ?_⟩, h3⟩
    rw [e]
    have e3 : psS ⟨{ s.m with row := [s.hand] }, s.spn, (s.sp, s.m.row) :: s.ini, s.spn + 1, s.lk⟩ = { psS s with tk := (psS s).tk ++ [((psS s).spn, [s.hand])], spn := (psS s).spn + 1 } := by
      unfold psS
      simp
    rw [e3]
    exact h2
  · obtain ⟨t, ini, hi⟩ : ∃ t ini, s.ini = t :: ini := by
      cases hi : s.ini with
      | nil => have := ho.ni; rw [hi] at this; simp at this; exact absurd ⟨rfl, this.symm⟩ hd
      | cons t ini => exact ⟨t, ini, rfl⟩
    have e : s.deed listK st n 1 loc = s.back listK st (s.m.all listK n) := by simp [HS.deed]
    have hp := ho.parent hi
    have hps : psS s = psOf (psS s) (ini.reverse ++ [(t.1, t.2)]) s.sp s.m := by
      unfold psS psOf
      simp [hi]
    rw [hps] at h
    rw [hi] at hil
    simp at hil
    refine (do_return base pb n nx K0 X L M R (psS s) w ini.reverse t.1 t.2 s.sp s.m (preL s.ini) P loc st0 sn sc st h hK hpk ho.inv.line (by have := ho.np; omega) hf r2 (by omega) (by simp; omega) (by omega) (by omega) (by omega) hsn hT hTl (s.m.all listK n) rfl).mono ?_
    rintro e' w' ⟨h1, ⟨X', L', R', nx', h2⟩, h3⟩
    refine ⟨h1, ⟨X', L', M, R', nx', ?_⟩, h3⟩
    rw [e]
    have e3 : psS (s.back listK st (s.m.all listK n)) = retPS (psS s) ini.reverse t.1 t.2 s.sp st (s.m.all listK n) := by
      unfold HS.back retPS
      rw [hi]
      simp only
      by_cases hs : st.getD s.sp false = true
      · rw [if_pos hs, if_pos hs]; rfl
      · rw [if_neg hs, if_neg hs]; rfl
    rw [e3]
    exact h2
  · have e : s.deed listK st n 2 loc = { s with m := s.m.all listK n } := by simp [HS.deed]
    refine (do_sync base pb n nx K0 X L M R (psS s) w s.ini.reverse s.sp s.m (preL s.ini) P loc st0 sn sc h hK hpk ho.inv.line (by have := ho.np; omega) hf r2 (by omega) (by omega) (by omega)).mono ?_
    rintro e' w' ⟨h1, ⟨X', L', R', nx', h2⟩, h3⟩
    refine ⟨h1, ⟨X', L', M, R', nx', ?_⟩, h3⟩
    rw [e]
    exact h2
  · have e : s.deed listK st n 3 loc = { s with lk := s.lk ++ [s.m.vs.getD s.hand []] } := by simp [HS.deed, listK]
    have hnl := ho.nl
    refine (do_look base pb n nx K0 X L M R (psS s) w s.ini.reverse s.sp s.m.row loc st0 sn sc h rfl hne (by omega) (by omega) s.hand rfl (s.m.vs.getD s.hand []) rfl r3 (by omega) (by show s.lk.length ≤ _; omega)).mono ?_
    rintro e' w' ⟨h1, ⟨X', M', h2⟩, h3⟩
    refine ⟨h1, ⟨X', L, M', R, nx, ?_⟩, h3⟩
    rw [e]
    exact h2
  · have e : s.deed listK st n 4 loc = { s with m := { s.m with vs := s.m.vs.set s.hand (s.m.vs.getD s.hand [] ++ [loc]) } } := by simp [HS.deed, listK]
    refine (do_write base pb n nx K0 X L M R (psS s) w s.ini.reverse s.sp s.m.row loc st0 sn sc h hK rfl hne (by omega) (by omega) s.hand rfl (s.m.vs.getD s.hand []) rfl r3 (by omega) hfl hfx).mono ?_
    rintro e' w' ⟨h1, ⟨X', L', h2⟩, h3⟩
    refine ⟨h1, ⟨X', L', M, R, nx, ?_⟩, h3⟩
    rw [e]
    exact h2
end Go.Proofs.Ytdiabpoafennlab.Rn
