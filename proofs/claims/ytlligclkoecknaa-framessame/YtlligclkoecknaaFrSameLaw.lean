import Derived.Test.YtlligclkoecknaaFrEndsLaw
import Derived.Deep.RegionHeld3
import Derived.Deep.DeepCutAuto
import Derived.Deep.QuietTactic
import Derived.BigQuiet
/-! FramesSame. -/
namespace Go.Proofs.Ytlligclkoecknaa
open Go.RowKit Go.HeapKit Go.IntWalk

theorem row_at8 {w : World} {e : TypeId} {size : Nat} {ao : Option Addr} {n c : Nat} {xs : List Value} (h : w.ownsRow 0 e size (.slice ao n c) n xs) (hn : 0 < n) :
    ∃ g, ao = some ⟨g, 0, none⟩ ∧ ∀ j u, xs[j]? = some u → w.cell? ⟨g, j, none⟩ = some u := by
  rcases h.2 with ⟨_, h0⟩ | ⟨g, cap', cur, he, _, hg, _, _, hcs, ht⟩
  · omega
  · injection he with e1 e2 e3
    subst e1
    refine ⟨g, rfl, fun j u hu => ?_⟩
    rw [cell_of_block hg]
    rw [← ht, List.getElem?_take] at hu
    split at hu
    · simpa using hu
    · cases hu

theorem sameNumbers_same (va vb : Value) (zs : List Int) (w : World) (ha : w.ownsRow 0 2 1 va zs.length (zs.map (Value.int .i64))) (hb : w.ownsRow 0 2 1 vb zs.length (zs.map (Value.int .i64))) (hz : zs.length ≤ 1000000000000) :
    Calls Try.prog 21 #[va, vb] w fun e w' => e = .returned (.bool true) ∧ ∃ m, w' = w.drewN m := by
  obtain ⟨aa, ca, rfl⟩ := own_shape ha
  obtain ⟨ab, cb, rfl⟩ := own_shape hb
  obtain ⟨n, hn⟩ : ∃ n, n = zs.length := ⟨_, rfl⟩
  have HH : Hid (w.ownsRow 0 2 1 (.slice aa n ca) n (zs.map (Value.int .i64)) ∧ w.ownsRow 0 2 1 (.slice ab n cb) n (zs.map (Value.int .i64)) ∧ n = zs.length) := ⟨hn ▸ ha, hn ▸ hb, hn⟩
  clear ha hb
  rw [← hn] at hz ⊢
  clear hn
  go_enter Try.func21, Try.ntmps21
  go_wp2_with fail
  go_loopw [5] (fun i wr => ∃ k : Nat, k ≤ n ∧ i = .int .i64 k ∧ ∃ m, wr = w.drewN m) (fun i _ => n - (intOf i).toNat)
  case atStart => exact ⟨0, Nat.zero_le _, rfl, 0, rfl⟩
  case round =>
    obtain ⟨k, hk, rfl, m, rfl⟩ := hrel
    by_cases hkn : k < n
    · obtain ⟨ga, rfl, hca⟩ := row_at8 HH.out.1 (by omega)
      obtain ⟨gb, rfl, hcb⟩ := row_at8 HH.out.2.1 (by omega)
      obtain ⟨x, hx⟩ : ∃ x, (zs.map (Value.int .i64))[k]? = some (.int .i64 x) := ⟨zs[k]'(by have := HH.out.2.2; omega), by simp [List.getElem?_map, List.getElem?_eq_getElem (show k < zs.length by have := HH.out.2.2; omega)]⟩
      have y0 := hca k _ hx
      have y1 := hcb k _ hx
      have i1 : (k : Int) < (n : Int) := by omega
      clear hx hca hcb HH
      go_wp2
      go_quiet (fail)
      go_wp2
      go_roundw
      case rel => exact ⟨k + 1, by omega, by go_num, _, rfl⟩
      case measure => simp [intOf]; omega
    · clear HH
      go_wp2
      go_ret
      exact ⟨rfl, _, rfl⟩

theorem own_at8 {w : World} {e : TypeId} {v : Value} {n : Nat} {xs : List Value} (h : w.ownsRow 0 e 1 v n xs) (i : Nat) (hi : i < n) : ∃ g c, v = .slice (some ⟨g, 0, none⟩) n c ∧ w.cell? ⟨g, i, none⟩ = some (xs.getD i undef) := by
  have hl : xs.length = n := by have := h.1; simpa using this
  rcases h.2 with ⟨_, h0⟩ | ⟨g, cap, cur, rfl, _, hg, hn, _, hcs, ht⟩
  · omega
  · refine ⟨g, cap, rfl, ?_⟩
    have hu := h.cells (g := g) rfl i (xs.getD i undef) (by rw [List.getD_eq_getElem?_getD, List.getElem?_eq_getElem (by omega)]; rfl)
    rwa [add0] at hu
theorem keeps_drewN8 (w : World) (n : Nat) : Keeps None w (w.drewN n) := ⟨rfl, rfl, rfl, Nat.le_refl _, fun _ _ _ => rfl⟩
theorem keep3 {w w1 w2 : World} (a b : Addr) {u v : Value} (hk : Keeps None w1 w2) (h1 : w1.cell? a = some u) (h2 : w1.cell? b = some v) (h3 : Keeps None w w1) : w2.cell? a = some u ∧ w2.cell? b = some v ∧ Keeps None w w2 :=
  ⟨hk.cell h1 (fun f => f), hk.cell h2 (fun f => f), h3.trans hk (fun _ f _ => f)⟩
set_option maxHeartbeats 4000000 in
set_option maxRecDepth 100000 in
theorem sameReads_same (va vb : Value) (Z : List (List Int)) (xs ys : List Value) (n : Nat) (w : World) (ha : w.ownsRow 0 48 1 va n xs) (hb : w.ownsRow 0 48 1 vb n ys)
    (hxs : ∀ i, i < n → w.ownsRow 0 2 1 (xs.getD i undef) (Z.getD i []).length ((Z.getD i []).map (Value.int .i64))) (hys : ∀ i, i < n → w.ownsRow 0 2 1 (ys.getD i undef) (Z.getD i []).length ((Z.getD i []).map (Value.int .i64)))
    (hn : n ≤ 1000) (hz : ∀ i, i < n → (Z.getD i []).length ≤ 1000) :
    Calls Try.prog 20 #[va, vb] w fun e w' => e = .returned (.bool true) ∧ Keeps None w w' := by
  have HH : Hid _ := And.intro ha (And.intro hb (And.intro hxs (And.intro hys hz)))
  obtain ⟨aa, ca, rfl⟩ := own_shape ha
  obtain ⟨ab, cb, rfl⟩ := own_shape hb
  clear ha hb hxs hys hz
  go_enter Try.func20, Try.ntmps20
  go_wp2_with fail
  go_loopw [5] (fun i wr => ∃ k : Nat, k ≤ n ∧ i = .int .i64 k ∧ Keeps None w wr) (fun i _ => n - (intOf i).toNat)
  case atStart => exact ⟨0, Nat.zero_le _, rfl, Keeps.refl _ _⟩
  case round =>
    obtain ⟨k, hk, rfl, hkr⟩ := hrel
    by_cases hkn : k < n
    · obtain ⟨ha, hb, hxs, hys, hz⟩ := HH.out
      obtain ⟨ga, c1, e1, y0⟩ := own_at8 ha k hkn
      obtain ⟨gb, c2, e2, y1⟩ := own_at8 hb k hkn
      injection e1 with e1 _ e3
      injection e2 with e2 _ e4
      subst e1 e2 e3 e4
      have hx := hxs k hkn
      have hy := hys k hkn
      have hzk := hz k hkn
      obtain ⟨a1, d1, f1⟩ := own_shape hx
      obtain ⟨a2, d2, f2⟩ := own_shape hy
      rw [f1] at y0 hx
      rw [f2] at y1 hy
      generalize Z.getD k [] = zs at hx hy hzk y0 y1
      have hcall := fun wx (hkx : Keeps None w wx) => sameNumbers_same _ _ zs wx (hkx.own hx (fun _ _ f => f)) (hkx.own hy (fun _ _ f => f)) (by omega)
      have i1 : (k : Int) < (n : Int) := by omega
      have z0 := hkr.cell y0 (fun f => f)
      have z1 := hkr.cell y1 (fun f => f)
      generalize zs.length = zn at z0 z1 hcall
      clear hx hy y0 y1 hxs hys hz ha hb HH f1 f2
      go_upto_region 6 with fail
      go_cut [26] (fun s26 wx => s26 = .bool false ∧ Keeps None w wx)
      case first =>
        go_region_held3 (fun w' => w'.cell? ⟨ga, k, none⟩ = some (.slice a1 zn d1) ∧ w'.cell? ⟨gb, k, none⟩ = some (.slice a2 zn d2) ∧ Keeps None w w')
          (first | exact keep3 ⟨ga, k, none⟩ ⟨gb, k, none⟩ (keeps_drewN8 _ _) z0 z1 hkr | exact hS2 | exact ⟨z0, z1, hkr.trans (Keeps.drew None _) (fun _ f _ => f)⟩ | assumption)
          (first | (go_at_call 21; go_split_ands; refine (hcall _ (by assumption)).mono ?_; rintro e wx ⟨rfl, mm, rfl⟩; have hS2 := keep3 ⟨ga, k, none⟩ ⟨gb, k, none⟩ (keeps_drewN8 _ mm) (by assumption) (by assumption) (by assumption)))
        all_goals (go_wp2_with fail; go_meet)
        all_goals exact ⟨rfl, hkr.trans (keeps_drewN8 _ _) (fun _ f _ => f)⟩
      case rest =>
        obtain ⟨rfl, hk2⟩ := hcut
        clear hcall z0 z1 hkr
        have HK2 : Hid _ := hk2
        clear hk2
        go_wp2_with fail
        go_roundw
        case rel => exact ⟨k + 1, by omega, by go_num, HK2.out⟩
        case measure => simp [intOf]; omega
    · clear HH
      have HKR : Hid _ := hkr
      clear hkr
      go_wp2
      go_ret
      exact ⟨rfl, HKR.out⟩

theorem new_own8 {w : World} {e : TypeId} {size n : Nat} {xs : List Value} {g : Nat} (hg : w.heap[g]? = some (.cells xs.toArray e (0, 0))) (hl : xs.length = n * size) (hn : n ≤ maxLen) :
    w.ownsRow 0 e size (.slice (some ⟨g, 0, none⟩) n n) n xs :=
  ⟨hl, .inr ⟨g, n, xs.toArray, rfl, Nat.zero_le _, hg, Nat.le_refl _, hn, by simpa using hl, by rw [← hl]; simp⟩⟩
/-- What the law reads of a run, in the world W. -/
def SameJ (l : List Nat) (len : Nat) (W : World) (R : Nat) : Prop :=
  ∃ (steps : Nat) (xd : Option Addr) (nr cd : Nat) (rs : List Value) (gm gn : Nat), W.cell? ⟨R, 0, none⟩ = some (.bool (decide (total l ≤ len))) ∧ W.cell? ⟨R, 1, none⟩ = some (.int .i64 steps) ∧ W.cell? ⟨R, 3, none⟩ = some (.slice xd nr cd) ∧ W.cell? ⟨R, 4, none⟩ = some (.slice (some ⟨gm, 0, none⟩) gn gn) ∧
    (total l ≤ len → steps = total l ∧ nr = l.length ∧ W.ownsRow 0 48 1 (.slice xd l.length cd) l.length rs ∧
      (∀ i, i < l.length → W.ownsRow 0 2 1 (rs.getD i undef) ((full l l.length).getD i []).length (((full l l.length).getD i []).map (Value.int .i64))) ∧
      gn = frs l ∧ W.ownsRow 0 2 1 (.slice (some ⟨gm, 0, none⟩) (frs l) (frs l)) (List.replicate (frs l) (1 : Int)).length ((List.replicate (frs l) (1 : Int)).map (Value.int .i64)))
theorem SameJ.kept {l : List Nat} {len : Nat} {W W' : World} {R : Nat} (h : SameJ l len W R) (hk : Keeps None W W') : SameJ l len W' R := by
  obtain ⟨steps, xd, nr, cd, rs, gm, gn, h0, h1, h3, h4, h5⟩ := h
  refine ⟨steps, xd, nr, cd, rs, gm, gn, hk.cell h0 (fun f => f), hk.cell h1 (fun f => f), hk.cell h3 (fun f => f), hk.cell h4 (fun f => f), fun h => ?_⟩
  obtain ⟨a, b, c, d, e, f⟩ := h5 h
  exact ⟨a, b, hk.own c (fun _ _ f => f), fun i hi => hk.own (d i hi) (fun _ _ f => f), e, hk.own f (fun _ _ f => f)⟩
theorem same_of {l : List Nat} {ps : List Int} {m : Nat} {w1 w3 : World} {val : Value} {n steps : Nat} {done : Bool} {holders : List Int} {reads : List (List Int)} {marks : List Int} {log : List Acc}
    (hr : Rounds l) (hm : m = min 1048576 ps.length) (hV : RunV w3 val done steps holders reads marks log) (ht : Told l n done holders reads marks log) (hst : steps = log.length) (hen : done = true ∨ steps = m) (hle : steps ≤ m) (_hk3 : Keeps None w1 w3) :
    ∃ v0 v1 v2 v3 v4 v5, val = .agg #[v0, v1, v2, v3, v4, v5] ∧ (∃ b, v0 = .bool b) ∧ (∃ s : Int, v1 = .int .i64 s) ∧ (∃ x y z, v2 = .slice x y z) ∧ (∃ x y z, v3 = .slice x y z) ∧ (∃ x y z, v4 = .slice x y z) ∧ (∃ x y z, v5 = .slice x y z) ∧ ∀ W, Keeps None w3 W → W.heap[w3.heap.size]? = some (.cells #[v0, v1, v2, v3, v4, v5] 51 (0, 0)) → SameJ l ps.length W w3.heap.size := by
  obtain ⟨vh, vd, rs, gm, gl, rfl, hh, hd, hrl, hrow, hbm, -⟩ := hV
  obtain ⟨xh, ch, rfl⟩ := own_slice hh
  obtain ⟨xd, cd, rfl⟩ := own_slice hd
  have hT := toGo_le hr
  obtain ⟨hA, hB⟩ := told_ends ht hst hen hle
  have q1 : reads.length = holders.length := ht.rh
  have q4 : marks.length = frs l := ht.ml
  have hF := hr.frs_le
  have hdn : done = decide (total l ≤ ps.length) := by
    by_cases h : m < total l
    · rw [(hA h).1]; symm; simp; unfold total at *; omega
    · rw [(hB h).1]; symm; simp; unfold total at *; omega
  refine ⟨_, _, _, _, _, _, rfl, ⟨_, rfl⟩, ⟨_, rfl⟩, ⟨_, _, _, rfl⟩, ⟨_, _, _, rfl⟩, ⟨_, _, _, rfl⟩, ⟨_, _, _, rfl⟩, fun W hkW hJ => ?_⟩
  refine ⟨steps, xd, reads.length, cd, rs, gm, marks.length, by rw [← hdn]; exact cell_of_block hJ 0, cell_of_block hJ 1, cell_of_block hJ 3, cell_of_block hJ 4, fun h => ?_⟩
  have hd1 : done = true := by rw [hdn]; simpa using h
  obtain ⟨hl2, hre⟩ := ht.dh hd1
  have hs : steps = total l := (hB (by unfold total at *; omega)).2
  have hlen : reads.length = l.length := by omega
  have hmk : marks = List.replicate (frs l) 1 := by
    rw [List.eq_replicate_iff]
    refine ⟨q4, fun b hb => ?_⟩
    obtain ⟨k, hk, rfl⟩ := List.mem_iff_getElem.1 hb
    have := (ht.mark k (by omega)).2 hd1
    simpa [List.getD_eq_getElem?_getD, hk] using this
  refine ⟨hs, hlen, ?_, fun i hi => ?_, q4, ?_⟩
  · rw [hlen] at hd; exact hkW.own hd (fun _ _ f => f)
  · have := hkW.own (hrow i (by omega)) (fun _ _ f => f)
    rw [hre] at this
    exact this
  · have hb2 := (hkW.block gm (Array.getElem?_eq_some_iff.1 hbm).1 (fun f => f)).trans hbm
    rw [hmk] at hb2
    have := new_own8 (n := frs l) (size := 1) hb2 (by simp) (by unfold maxLen; omega)
    simpa using this
theorem full_short {l : List Nat} (hr : Rounds l) (i : Nat) (hi : i < l.length) : ((full l l.length).getD i []).length ≤ 1000 := by
  rw [full_at l _ i hi, vals100_length]
  have := hr.few i
  omega
set_option maxHeartbeats 8000000 in
set_option maxRecDepth 100000 in
theorem framesSame_walk (a0 a1 a2 : Option Addr) (c0 c1 c2 : Nat) (zs ps qs : List Int) (w : World) (hz : Ints w a0 zs) (hp : Ints w a1 ps) (hq : Ints w a2 qs) (hc1 : ps.length ≤ c1) (hc2 : qs.length ≤ c2) :
    Calls Try.prog 5 #[.slice a0 zs.length c0, .slice a1 ps.length c1, .slice a2 qs.length c2] w fun e w' => e = .returned (.bool true) ∧ Keeps None w w' := by
  have htd := tidy_any a0 c0 zs w hz
  have hrd := tidyL_rounds zs
  have hcut := fun w => cut_any a1 c1 ps w hc1
  have hcut2 := fun w => cut_any a2 c2 qs w hc2
  have HP : Hid (Ints w a1 ps) := hp
  have HQ : Hid (Ints w a2 qs) := hq
  generalize tidyL zs = l at htd hrd
  clear hz hp hq
  have h64 := hrd.len
  have HR : Hid (Rounds l) := hrd
  go_enter Try.func5, Try.ntmps5
  go_wp2_with fail
  refine htd.mono ?_
  rintro e w1 ⟨v, rfl, ho, hk1⟩
  have ho2 : w1.ownsRow 0 3 1 v l.length ((l.map (fun n : Nat => (n : Int))).map (Value.int .i64)) := by rw [List.map_map]; exact ho
  obtain ⟨ao, c, rfl, hI, -⟩ := own_ints ho2
  have hlen := fun w h => length_any ao c l w h hrd
  have hplay := play_ok ao a1 c c1 l (ps.take 1048576) w1 hI ((HP.out.kept hk1).take _) hrd (by simp; omega)
  have hplay2 := fun wx (hkx : Keeps None w1 wx) => play_ok ao a2 c c2 l (qs.take 1048576) wx (hI.kept hkx) (((HQ.out.kept hk1).kept hkx).take _) hrd (by simp; omega)
  have hmm : (ps.take 1048576).length = min 1048576 ps.length := by simp
  have hmm2 : (qs.take 1048576).length = min 1048576 qs.length := by simp
  generalize hPl : (ps.take 1048576).length = m at hcut hplay hmm
  generalize hPl2 : (qs.take 1048576).length = m2 at hcut2 hplay2 hmm2
  have HM : Hid _ := hmm
  have HM2 : Hid _ := hmm2
  have HK1 : Hid _ := hk1
  have HI1 : Hid (Ints w1 ao (l.map (fun n : Nat => (n : Int)))) := hI
  clear ho ho2 hI htd hk1 hPl hPl2 hrd hmm hmm2
  go_upto_region 2 with fail
  go_cut [8, 9] (fun s6 s7 wx => s7 = .int .i64 0 ∧ ∃ R, s6 = .pointer (some ⟨R, 0, none⟩) ∧ SameJ l ps.length wx R ∧ Keeps None w1 wx)
  case first =>
    go_wp2_with fail
    refine (hcut _).mono ?_
    rintro e w2 ⟨rfl, hw2⟩
    have hv2 := hw2.symm
    subst hv2
    clear hw2 hcut
    go_wp2_with fail
    refine hplay.mono ?_
    rintro e w3 ⟨val, n, done, steps, holders, reads, marks, log, rfl, hV, ht, hst, hen, hle, hk3⟩
    obtain ⟨v0, v1, v2, v3, v4, v5, rfl, ⟨b0, rfl⟩, ⟨s0, rfl⟩, ⟨y0, y1, y2, rfl⟩, ⟨y3, y4, y5, rfl⟩, ⟨y6, y7, y8, rfl⟩, ⟨y9, y10, y11, rfl⟩, hF⟩ := same_of HR.out HM.out hV ht hst hen hle hk3
    have HF : Hid _ := hF
    have HK3 : Hid _ := hk3
    clear hF hV ht hst hen hle hk3 hplay hlen hplay2 hcut2
    go_wp2_with fail
    go_meet
    exact ⟨rfl, _, rfl, HF.out _ (Keeps.alloc None w3 _) (new_at w3 _ _ rfl), HK3.out.andAlloc _⟩
  case rest =>
    obtain ⟨rfl, R, rfl, hJ, hk4⟩ := hcut
    have hplay3 := hplay2 wc hk4
    have HJ : Hid (SameJ l ps.length wc R) := hJ
    have HK4 : Hid _ := hk4
    clear hJ hk4 hplay hplay2 hcut
    go_upto_region 3 with fail
    go_cut [10, 11] (fun s6 s7 wx => s7 = .int .i64 0 ∧ ∃ Q, s6 = .pointer (some ⟨Q, 0, none⟩) ∧ SameJ l qs.length wx Q ∧ SameJ l ps.length wx R ∧ Keeps None w1 wx)
    case first =>
      go_wp2_with fail
      refine (hcut2 _).mono ?_
      rintro e w2 ⟨rfl, hw2⟩
      have hv2 := hw2.symm
      subst hv2
      clear hw2 hcut2
      go_wp2_with fail
      refine hplay3.mono ?_
      rintro e w3 ⟨val, n, done, steps, holders, reads, marks, log, rfl, hV, ht, hst, hen, hle, hk3⟩
      obtain ⟨v0, v1, v2, v3, v4, v5, rfl, ⟨b0, rfl⟩, ⟨s0, rfl⟩, ⟨y0, y1, y2, rfl⟩, ⟨y3, y4, y5, rfl⟩, ⟨y6, y7, y8, rfl⟩, ⟨y9, y10, y11, rfl⟩, hF⟩ := same_of HR.out HM2.out hV ht hst hen hle hk3
      have HF : Hid _ := hF
      have HK3 : Hid _ := hk3
      clear hF hV ht hst hen hle hk3 hplay3 hlen
      go_wp2_with fail
      go_meet
      exact ⟨rfl, _, rfl, HF.out _ (Keeps.alloc None w3 _) (new_at w3 _ _ rfl), SameJ.kept (SameJ.kept HJ.out HK3.out) (Keeps.alloc None w3 _), (HK4.out.trans HK3.out (fun _ f _ => f)).andAlloc _⟩
    case rest =>
      obtain ⟨rfl, Q, rfl, ⟨steps2, xd2, nr2, cd2, rs2, gm2, gn2, s0, s1, s3, s4, s5⟩, ⟨steps, xd, nr, cd, rs, gm, gn, r0, r1, r3, r4, r5⟩, hk5⟩ := hcut
      have hl1 := hlen wc (HI1.out.kept hk5)
      have HK5 : Hid (Keeps None w wc) := HK1.out.trans hk5 (fun _ f _ => f)
      have HS5 : Hid _ := And.intro r5 s5
      clear hplay3 hcut2 hlen hk5 r5 s5 HJ HK4
      obtain ⟨T, hT⟩ : ∃ T, T = total l := ⟨_, rfl⟩
      rw [← hT] at r0 s0 hl1
      have HT : Hid _ := hT
      clear hT
      have hq1 : ∀ b : Bool, decide (T ≤ ps.length) = b → wc.cell? ⟨R, 0, none⟩ = some (.bool b) := fun b e => by rw [r0, e]
      have hq2 : ∀ b : Bool, decide (T ≤ qs.length) = b → wc.cell? ⟨Q, 0, none⟩ = some (.bool b) := fun b e => by rw [s0, e]
      clear r0 s0
      by_cases h1 : T ≤ ps.length
      · have r0 := hq1 true (by simpa using h1)
        have j1 : (T : Int) ≤ (ps.length : Int) := by omega
        by_cases h2 : T ≤ qs.length
        · have s0 := hq2 true (by simpa using h2)
          have j2 : (T : Int) ≤ (qs.length : Int) := by omega
          have hT := HT.out
          obtain ⟨e1, e2, o1, o2, e3, o3⟩ := HS5.out.1 (by omega)
          obtain ⟨f1, f2, p1, p2, f3, p3⟩ := HS5.out.2 (by omega)
          have hcr := sameReads_same _ _ _ rs rs2 l.length wc o1 p1 o2 p2 (by omega) (fun i hi => full_short HR.out i hi)
          have hFl := HR.out.frs_le
          have hcm := fun wx (hkx : Keeps None wc wx) => sameNumbers_same _ _ _ wx (hkx.own o3 (fun _ _ f => f)) (hkx.own p3 (fun _ _ f => f)) (by simp; omega)
          rw [e1] at r1
          rw [f1] at s1
          rw [e2] at r3
          rw [f2] at s3
          rw [e3] at r4
          rw [f3] at s4
          have HC : Hid (∀ wx, Keeps None wc wx → wx.cell? ⟨R, 4, none⟩ = some (.slice (some ⟨gm, 0, none⟩) (frs l) (frs l)) ∧ wx.cell? ⟨Q, 4, none⟩ = some (.slice (some ⟨gm2, 0, none⟩) (frs l) (frs l))) := fun wx hk => ⟨hk.cell r4 (fun f => f), hk.cell s4 (fun f => f)⟩
          clear o1 o2 o3 p1 p2 p3 hT HS5 e1 e2 e3 f1 f2 f3 HM HM2 HR hFl hq1 hq2 r4 s4 h1 h2
          go_wp2_with fail
          refine hl1.mono ?_
          rintro e w2 ⟨rfl, hw2⟩
          have hv2 := hw2.symm
          subst hv2
          clear hw2 hl1
          go_wp2_with fail
          refine hcr.mono ?_
          rintro e w7 ⟨rfl, hk7⟩
          obtain ⟨r4, s4⟩ := HC.out w7 hk7
          have hc7 := hcm w7 hk7
          have HK7 : Hid _ := hk7
          clear hk7 hcr hcm
          go_wp2_with fail
          refine hc7.mono ?_
          rintro e w8 ⟨rfl, mm, rfl⟩
          clear hc7
          go_wp2_with fail
          go_ret
          exact ⟨rfl, (HK5.out.trans HK7.out (fun _ f _ => f)).trans (keeps_drewN8 _ mm) (fun _ f _ => f)⟩
        · have s0 := hq2 false (by simpa using h2)
          have j2 : ¬ (T : Int) ≤ (qs.length : Int) := by omega
          clear hq1 hq2 h1 h2 HS5 HM HM2 HR
          go_wp2_with fail
          refine hl1.mono ?_
          rintro e w2 ⟨rfl, hw2⟩
          have hv2 := hw2.symm
          subst hv2
          clear hw2 hl1
          go_wp2_with fail
          go_ret
          exact ⟨rfl, HK5.out⟩
      · have r0 := hq1 false (by simpa using h1)
        have j1 : ¬ (T : Int) ≤ (ps.length : Int) := by omega
        by_cases h2 : T ≤ qs.length
        · have s0 := hq2 true (by simpa using h2)
          have j2 : (T : Int) ≤ (qs.length : Int) := by omega
          clear hq1 hq2 h1 h2 HS5 HM HM2 HR
          go_wp2_with fail
          refine hl1.mono ?_
          rintro e w2 ⟨rfl, hw2⟩
          have hv2 := hw2.symm
          subst hv2
          clear hw2 hl1
          go_wp2_with fail
          go_ret
          exact ⟨rfl, HK5.out⟩
        · have s0 := hq2 false (by simpa using h2)
          have j2 : ¬ (T : Int) ≤ (qs.length : Int) := by omega
          clear hq1 hq2 h1 h2 HS5 HM HM2 HR
          go_wp2_with fail
          refine hl1.mono ?_
          rintro e w2 ⟨rfl, hw2⟩
          have hv2 := hw2.symm
          subst hv2
          clear hw2 hl1
          go_wp2_with fail
          go_ret
          exact ⟨rfl, HK5.out⟩
end Go.Proofs.Ytlligclkoecknaa
