import Derived.Test.YtheginjjncnheaaHiTime
/-! The program: does the plain deque allow an order? -/
namespace Go.Proofs.Ytheginjjncnheaa
set_option linter.unusedVariables false
set_option maxRecDepth 20000
open Go.RowKit Go.HeapKit

theorem pre_part {l : List Cl} {zs : List Int} {k : Nat} (h : preB l zs zs.length = true) (hk : k ≤ zs.length) : preB l zs k = true :=
  List.all_eq_true.2 fun i hi => range_at (by have := List.mem_range.1 hi; omega) h
set_option maxHeartbeats 4000000 in
theorem allowed_ok (a : Option Addr) (n c : Nat) (l : List Cl) (ao : Option Addr) (no co : Nat) (zs : List Int) (m : Nat) (w : World) (hS : Seen w a n l) (hO : SeenI w ao no zs) (h40 : n ≤ 40) (hno : no * 8 ≤ 140737488355328) (hp : preB l zs zs.length = true) (hh : histB l = true) (hm : m ≤ 4096) :
    Calls Try.prog 26 #[.slice a n c, .int .i64 m, .slice ao no co] w fun e w' => e = .returned (.bool (runD m l zs).isSome) ∧ Keeps None w w' := by
  have HL : Hid (n = l.length ∧ no = zs.length) := ⟨hS.len, hO.len⟩
  have HS : Hid (Seen w a n l) := hS
  have HO : Hid (SeenI w ao no zs) := hO
  have HP : Hid (preB l zs zs.length = true ∧ histB l = true) := ⟨hp, hh⟩
  clear hS hO hp hh
  obtain ⟨R, hR⟩ : ∃ R, R = (runD m l zs).isSome := ⟨_, rfl⟩
  have HR : Hid (R = (runD m l zs).isSome) := hR
  rw [← hR]
  clear hR
  obtain ⟨p, hp⟩ : ∃ p, p = w.heap.size := ⟨_, rfl⟩
  have HG : Hid (p = w.heap.size) := hp
  go_enter Try.func26, Try.ntmps26
  go_wp2_with fail
  rw [← hp]
  clear hp
  go_loopw [9, 14] (fun _ i wr => ∃ k : Nat, k ≤ no ∧ i = .int .i64 k ∧ (∃ st vh, runD m l (zs.take k) = some st ∧ IsPlain wr p m vh st ∧ ∀ g, vh.ownBlock = some g → w.heap.size ≤ g) ∧ Keeps None w wr) (fun _ i _ => no - (intOf i).toNat)
  case atStart => exact ⟨0, Nat.zero_le _, rfl, ⟨[], .slice none 0 0, rfl, ⟨blk_new _ _ _ HG.out.symm, .inl ⟨rfl, rfl⟩⟩, fun g e => by simp [Value.ownBlock] at e⟩, Keeps.alloc None w _⟩
  case round =>
    obtain ⟨k, hk, rfl, ⟨st, vh, hrun, hP, hlow⟩, hkp⟩ := hrel
    by_cases hkn : k < no
    · obtain ⟨b, off, rfl, hb, hc⟩ := (HO.out.more hkp).ex (by omega)
      obtain ⟨z, hz⟩ : ∃ z, zs[k]? = some z := ⟨zs[k]'(by have := HL.out.2; omega), by simp⟩
      obtain ⟨j, rfl, x, hx⟩ := idx_of HP.out.1 hz
      have hjn : j < n := by have := (List.getElem?_eq_some_iff.1 hx).1; have := HL.out.1; omega
      have y0 := hc k _ hz
      obtain ⟨bl, ol, rfl, -, hcl⟩ := (HS.out.more hkp).ex (by omega)
      obtain ⟨u0, u1, u2, u3, u4, u5, u6⟩ := hcl j x hx
      have i1 : (k : Int) < (no : Int) := by omega
      have i3 : (j : Int) < (n : Int) := by omega
      have hst := (run_same (most := m) HP.out.2 (pre_part HP.out.1 (k := k) (by have := HL.out.2; omega)) (by have := HL.out.2; omega)).2 st hrun
      have hal := allows_ok p m vh st x wr hP (by omega)
      have HK : Hid (Keeps None w wr ∧ IsPlain wr p m vh st ∧ ∀ g, vh.ownBlock = some g → w.heap.size ≤ g) := ⟨hkp, hP, hlow⟩
      have HZ : Hid (runD m l (zs.take (k + 1)) = stepD m l (some st) j ∧ clAt l j = x) := ⟨by rw [runD_more hz, hrun], clAt_of hx⟩
      have HQ : Hid (runD m l (zs.take (k + 1)) = none → R = false) := fun h => by rw [HR.out, runD_none h]; rfl
      clear hc hz hcl hx hkp hP hlow hrun
      cases hB : alwB m st x with
      | false =>
        rw [hB] at hal
        have HF : Hid (R = false) := HQ.out (by rw [HZ.out.1]; simp [stepD, HZ.out.2, hB])
        clear HQ HZ hB
        go_wp2_with fail
        refine hal.mono ?_
        rintro e w2 ⟨rfl, vh2, hP2, hK2, hM2⟩
        have HX : Hid (Keeps None w w2) := HK.out.1.trans hK2 (fun i e hi => by
          rcases e with e | e
          · have := HG.out; omega
          · have := HK.out.2.2 i e; omega)
        clear hal hP2 hK2 hM2 HK
        go_wp2
        go_ret
        exact ⟨by rw [HF.out]; rfl, HX.out⟩
      | true =>
        rw [hB] at hal
        have HF : Hid (runD m l (zs.take (k + 1)) = some (alwZ m st x)) := HZ.out.1.trans (by simp [stepD, HZ.out.2, hB])
        clear HQ HZ hB
        go_wp2_with fail
        refine hal.mono ?_
        rintro e w2 ⟨rfl, vh2, hP2, hK2, hM2⟩
        have HX : Hid ((∃ st vh, runD m l (zs.take (k + 1)) = some st ∧ IsPlain w2 p m vh st ∧ ∀ g, vh.ownBlock = some g → w.heap.size ≤ g) ∧ Keeps None w w2) := by
          refine ⟨⟨_, vh2, HF.out, hP2, fun g e => ?_⟩, HK.out.1.trans hK2 (fun i e hi => by
            rcases e with e | e
            · have := HG.out; omega
            · have := HK.out.2.2 i e; omega)⟩
          rcases hM2 with hM | ⟨g', e', hg'⟩
          · exact HK.out.2.2 g (hM.symm.trans e)
          · rw [e'] at e; injection e with e; have := HK.out.1.size; omega
        clear hal hP2 hK2 hM2 HK HF
        go_wp2
        go_roundw
        case rel => exact ⟨k + 1, by omega, by go_num, HX.out⟩
        case measure => simp [intOf]; omega
    · have HF : Hid (R = true) := by
        rw [HR.out]
        rw [List.take_of_length_le (by have := HL.out.2; omega)] at hrun
        rw [hrun]; rfl
      have HK : Hid (Keeps None w wr) := hkp
      clear hrun hP hlow hkp
      go_wp2
      go_ret
      exact ⟨by rw [HF.out]; rfl, HK.out⟩
end Go.Proofs.Ytheginjjncnheaa
