import Derived.Test.YtkancljbbhfpjaaFrEnds
/-! FramesEnds. -/
namespace Go.Proofs.Ytkancljbbhfpjaa
open Go.RowKit Go.HeapKit Go.IntWalk

theorem Ints.take {w : World} {ao : Option Addr} {zs : List Int} (h : Ints w ao zs) (n : Nat) : Ints w ao (zs.take n) := by
  intro hp
  simp only [List.length_take] at hp
  obtain ⟨b, off, h1, h2, h3⟩ := h (by omega)
  refine ⟨b, off, h1, h2, fun i hi => ?_⟩
  simp only [List.length_take] at hi
  rw [h3 i (by omega)]
  simp only [List.getD_eq_getElem?_getD, List.getElem?_take]
  rw [if_pos (by omega)]
/-- What Play tells of its length. -/
theorem told_ends {l : List Nat} {n m steps : Nat} {done : Bool} {holders : List Int} {reads : List (List Int)} {marks : List Int} {log : List Acc} (ht : Told l n done holders reads marks log) (hs : steps = log.length) (he : done = true ∨ steps = m) (hle : steps ≤ m) :
    (m < total l → done = false ∧ steps = m) ∧ (¬ m < total l → done = true ∧ steps = total l) := by
  have h1 := ht.lg
  have h2 := ht.dn
  constructor
  · intro h
    have hn : ¬ n = 0 := by omega
    have hd : done = false := by
      cases done with
      | false => rfl
      | true => exact absurd (h2.1 rfl) hn
    refine ⟨hd, ?_⟩
    rcases he with e | e
    · rw [hd] at e; cases e
    · exact e
  · intro h
    have hd : done = true := by
      rcases he with e | e
      · exact e
      · exact h2.2 (by omega)
    have := h2.1 hd
    exact ⟨hd, by omega⟩
set_option maxHeartbeats 4000000 in
set_option maxRecDepth 100000 in
theorem framesEnds_walk (a0 a1 : Option Addr) (c0 c1 : Nat) (zs ps : List Int) (w : World) (hz : Ints w a0 zs) (hp : Ints w a1 ps) (hc1 : ps.length ≤ c1) :
    Calls Try.prog 7 #[.slice a0 zs.length c0, .slice a1 ps.length c1] w fun e w' => e = .returned (.bool true) ∧ Keeps None w w' := by
  have htd := tidy_any a0 c0 zs w hz
  have hrd := tidyL_rounds zs
  have hcut := fun w => cut_any a1 c1 ps w hc1
  have HP : Hid (Ints w a1 ps) := hp
  generalize tidyL zs = l at htd hrd
  clear hz hp
  go_enter Try.func7, Try.ntmps7
  go_wp2_with fail
  refine htd.mono ?_
  rintro e w1 ⟨v, rfl, ho, hk1⟩
  have ho2 : w1.ownsRow 0 3 1 v l.length ((l.map (fun n : Nat => (n : Int))).map (Value.int .i64)) := by rw [List.map_map]; exact ho
  obtain ⟨ao, c, rfl, hI, -⟩ := own_ints ho2
  have hlen := fun w h => length_any ao c l w h hrd
  have hplay := play_ok ao a1 c c1 l (ps.take 1048576) w1 hI ((HP.out.kept hk1).take _) hrd (by simp; omega)
  have hl1 := hlen w1 hI
  generalize hPl : (ps.take 1048576).length = m at hcut hplay
  have HK1 : Hid _ := hk1
  clear ho ho2 hI hlen htd hk1 hPl
  go_wp2_with fail
  refine (hcut _).mono ?_
  rintro e w2 ⟨rfl, hw2⟩
  have hv2 := hw2.symm
  subst hv2
  clear hw2 hcut
  go_wp2_with fail
  refine hl1.mono ?_
  rintro e w2 ⟨rfl, hw2⟩
  have hv2 := hw2.symm
  subst hv2
  clear hw2 hl1
  go_wp2_with fail
  refine hplay.mono ?_
  rintro e w3 ⟨val, n, done, steps, holders, reads, marks, log, rfl, ⟨vh, vd, rs, gm, gl, rfl, hh, hd, -, -, -, -⟩, ht, hst, hen, hle, hk3⟩
  obtain ⟨xh, ch, rfl⟩ := own_slice hh
  obtain ⟨xd, cd, rfl⟩ := own_slice hd
  obtain ⟨hA, hB⟩ := told_ends ht hst hen hle
  have HK3 : Hid (Keeps None w w3) := HK1.out.trans hk3 (fun _ f _ => f)
  generalize hln : log.length = ln at hst
  generalize hhn : holders.length = nh
  generalize hrn : reads.length = nr
  generalize hmn : marks.length = nm
  generalize htl : total l = T at hA hB
  clear ht hen hh hd hk3 hplay hln hhn hrn hmn htl
  subst hst
  by_cases hm : m < T
  · obtain ⟨e1, e2⟩ := hA hm
    subst e1 e2
    have j1 : (steps : Int) < (T : Int) := by omega
    clear hA hB hle
    go_wp2_with fail
    go_ret
    exact ⟨rfl, HK3.out.andAlloc _⟩
  · obtain ⟨e1, e2⟩ := hB hm
    subst e1 e2
    have j1 : ¬ (m : Int) < (steps : Int) := by omega
    clear hA hB hle
    go_wp2_with fail
    go_ret
    exact ⟨rfl, HK3.out.andAlloc _⟩
end Go.Proofs.Ytkancljbbhfpjaa
