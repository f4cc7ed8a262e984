import Derived.Test.YtlligclkoecknaaFrEndsLaw
/-! FramesOnce. -/
namespace Go.Proofs.Ytlligclkoecknaa
open Go.RowKit Go.HeapKit Go.IntWalk

theorem own_at9 {w : World} {e : TypeId} {v : Value} {n : Nat} {xs : List Value} (h : w.ownsRow 0 e 1 v n xs) (i : Nat) (hi : i < n) : ∃ g c, v = .slice (some ⟨g, 0, none⟩) n c ∧ w.cell? ⟨g, i, none⟩ = some (xs.getD i undef) := by
  have hl : xs.length = n := by have := h.1; simpa using this
  rcases h.2 with ⟨_, h0⟩ | ⟨g, cap, cur, rfl, _, hg, hn, _, hcs, ht⟩
  · omega
  · refine ⟨g, cap, rfl, ?_⟩
    have hu := h.cells (g := g) rfl i (xs.getD i undef) (by rw [List.getD_eq_getElem?_getD, List.getElem?_eq_getElem (by omega)]; rfl)
    rwa [add0] at hu
theorem logVals_at8 (l : List Acc) (k : Nat) (x : Acc) (h : l[k]? = some x) (j : Nat) (u : Value) (hu : x.vals[j]? = some u) : (logVals l)[k * 6 + j]? = some u := by
  have hj : j < 6 := by have := (List.getElem?_eq_some_iff.1 hu).1; simpa [Acc.vals] using this
  induction l generalizing k with
  | nil => simp at h
  | cons y l ih =>
    have e : logVals (y :: l) = y.vals ++ logVals l := rfl
    rw [e]
    cases k with
    | zero => simp at h; subst h; rw [List.getElem?_append_left (by rw [Acc.vals_length]; omega)]; simpa using hu
    | succ k =>
      rw [List.getElem?_append_right (by rw [Acc.vals_length]; omega), Acc.vals_length, show (k + 1) * 6 + j - 6 = k * 6 + j by omega]
      exact ih k (by simpa using h)

theorem scan_none (H : List Int) (log : List Acc) : scan H none log = none := by
  induction log with
  | nil => rfl
  | cons x log ih => simpa [scan] using ih
theorem scan_split (H : List Int) (s : Option (Nat × Int)) (a b : List Acc) : scan H s (a ++ b) = scan H (scan H s a) b := by simp [scan, List.foldl_append]
/-- No entry of a log that is read to its end is refused. -/
theorem scan_next {H : List Int} {log : List Acc} {r : Nat × Int} (h : scan H (some (0, -1)) log = some r) (k : Nat) (hk : k < log.length) {s : Nat × Int} (hs : scan H (some (0, -1)) (log.take k) = some s) :
    ∃ s', scan1 H s (log[k]) = some s' ∧ scan H (some (0, -1)) (log.take (k + 1)) = some s' := by
  have e : log.take (k + 1) = log.take k ++ [log[k]] := by simp
  have h2 := scan_app H (some (0, -1)) (log.take k) log[k]
  rw [hs] at h2
  rw [e, h2]
  cases h3 : scan1 H s log[k] with
  | some s' => exact ⟨s', rfl, by simp [h3]⟩
  | none =>
    exfalso
    have h4 : scan H (some (0, -1)) (log.take (k + 1)) = none := by rw [e, h2]; simp [h3]
    have h5 := scan_split H (some (0, -1)) (log.take (k + 1)) (log.drop (k + 1))
    rw [List.take_append_drop, h, h4, scan_none] at h5
    cases h5
theorem scan1_cases {H : List Int} {p : Nat} {o : Int} {x : Acc} {s : Nat × Int} (h : scan1 H (p, o) x = some s) :
    (x.addr ≠ 1 ∧ x.who ≠ o ∧ s = (p, o)) ∨ (x.addr = 1 ∧ x.kind = 1 ∧ x.who = o ∧ x.a = 1 ∧ p < H.length ∧ H.getD p 0 = x.who ∧ s = (p + 1, -1)) ∨ (x.addr = 1 ∧ x.kind = 3 ∧ 0 ≤ x.b ∧ o < 0 ∧ s = (p, if x.b = 0 then x.who else o)) := by
  unfold scan1 at h
  split at h
  · split at h
    · cases h
    · injection h with h; exact .inl ⟨by assumption, by assumption, h.symm⟩
  · rename_i ha
    split at h
    · split at h
      · rename_i hk hc
        injection h with h
        exact .inr (.inl ⟨by simpa using ha, hk, hc.1, hc.2.1, hc.2.2.1, hc.2.2.2, h.symm⟩)
      · cases h
    · split at h
      · rename_i hc
        injection h with h
        exact .inr (.inr ⟨by simpa using ha, hc.1, hc.2.1, hc.2.2, h.symm⟩)
      · cases h
/-- What the law reads of the run, in the world W. -/
def OnceJ (l : List Nat) (len : Nat) (w W : World) (R : Nat) (ao : Option Addr) : Prop :=
  ∃ n done holders reads marks log xh ch gl, Told l n done holders reads marks log ∧ (total l ≤ len → done = true) ∧ Keeps None w W ∧ Ints W ao (l.map (fun n : Nat => (n : Int))) ∧
    W.ownsRow 0 3 1 (.slice xh holders.length ch) holders.length (holders.map (Value.int .i64)) ∧ W.heap[gl]? = some (.cells (logVals log).toArray 56 (0, 0)) ∧
    W.cell? ⟨R, 0, none⟩ = some (.bool done) ∧ W.cell? ⟨R, 1, none⟩ = some (.int .i64 log.length) ∧ W.cell? ⟨R, 2, none⟩ = some (.slice xh holders.length ch) ∧ W.cell? ⟨R, 5, none⟩ = some (.slice (some ⟨gl, 0, none⟩) log.length log.length)
theorem once_of {l : List Nat} {ps : List Int} {m : Nat} {w w1 w3 : World} {ao : Option Addr} {val : Value} {n steps : Nat} {done : Bool} {holders : List Int} {reads : List (List Int)} {marks : List Int} {log : List Acc}
    (hr : Rounds l) (hm : m = min 1048576 ps.length) (hk1 : Keeps None w w1) (hI : Ints w1 ao (l.map (fun n : Nat => (n : Int)))) (hV : RunV w3 val done steps holders reads marks log) (ht : Told l n done holders reads marks log) (hst : steps = log.length) (hen : done = true ∨ steps = m) (hle : steps ≤ m) (hk3 : Keeps None w1 w3) :
    ∃ v0 v1 v2 v3 v4 v5, val = .agg #[v0, v1, v2, v3, v4, v5] ∧ (∃ b, v0 = .bool b) ∧ (∃ s : Int, v1 = .int .i64 s) ∧ (∃ x y z, v2 = .slice x y z) ∧ (∃ x y z, v3 = .slice x y z) ∧ (∃ x y z, v4 = .slice x y z) ∧ (∃ x y z, v5 = .slice x y z) ∧ ∀ W, Keeps None w3 W → W.heap[w3.heap.size]? = some (.cells #[v0, v1, v2, v3, v4, v5] 51 (0, 0)) → OnceJ l ps.length w W w3.heap.size ao := by
  obtain ⟨vh, vd, rs, gm, gl, rfl, hh, hd, hrl, hrow, hbm, hbl⟩ := hV
  obtain ⟨xh, ch, rfl⟩ := own_slice hh
  obtain ⟨xd, cd, rfl⟩ := own_slice hd
  have hT := toGo_le hr
  obtain ⟨hA, hB⟩ := told_ends ht hst hen hle
  refine ⟨_, _, _, _, _, _, rfl, ⟨_, rfl⟩, ⟨_, rfl⟩, ⟨_, _, _, rfl⟩, ⟨_, _, _, rfl⟩, ⟨_, _, _, rfl⟩, ⟨_, _, _, rfl⟩, fun W hkW hJ => ?_⟩
  refine ⟨n, done, holders, reads, marks, log, xh, ch, gl, ht, fun h => (hB (by unfold total at *; omega)).1, (hk1.trans hk3 (fun _ f _ => f)).trans hkW (fun _ f _ => f), (hI.kept hk3).kept hkW, hkW.own hh (fun _ _ f => f), (hkW.block gl (Array.getElem?_eq_some_iff.1 hbl).1 (fun f => f)).trans hbl, cell_of_block hJ 0, ?_, cell_of_block hJ 2, cell_of_block hJ 5⟩
  rw [← hst]; exact cell_of_block hJ 1
set_option maxHeartbeats 8000000 in
set_option maxRecDepth 100000 in
theorem framesOnce_walk (a0 a1 : Option Addr) (c0 c1 : Nat) (zs ps : List Int) (w : World) (hz : Ints w a0 zs) (hp : Ints w a1 ps) (hc1 : ps.length ≤ c1) :
    Calls Try.prog 4 #[.slice a0 zs.length c0, .slice a1 ps.length c1] w fun e w' => e = .returned (.bool true) ∧ Keeps None w w' := by
  have htd := tidy_any a0 c0 zs w hz
  have hrd := tidyL_rounds zs
  have hcut := fun w => cut_any a1 c1 ps w hc1
  have HP : Hid (Ints w a1 ps) := hp
  generalize tidyL zs = l at htd hrd
  clear hz hp
  have h64 := hrd.len
  have HR : Hid (Rounds l) := hrd
  go_enter Try.func4, Try.ntmps4
  go_wp2_with fail
  refine htd.mono ?_
  rintro e w1 ⟨v, rfl, ho, hk1⟩
  have ho2 : w1.ownsRow 0 3 1 v l.length ((l.map (fun n : Nat => (n : Int))).map (Value.int .i64)) := by rw [List.map_map]; exact ho
  obtain ⟨ao, c, rfl, hI, -⟩ := own_ints ho2
  have hlen := fun w h => length_any ao c l w h hrd
  have hplay := play_ok ao a1 c c1 l (ps.take 1048576) w1 hI ((HP.out.kept hk1).take _) hrd (by simp; omega)
  have hmm : (ps.take 1048576).length = min 1048576 ps.length := by simp
  generalize hPl : (ps.take 1048576).length = m at hcut hplay hmm
  have HM : Hid _ := hmm
  have HK1 : Hid _ := hk1
  have HI1 : Hid (Ints w1 ao (l.map (fun n : Nat => (n : Int)))) := hI
  clear ho ho2 hI htd hk1 hPl hrd hmm
  go_upto_region 2 with fail
  go_cut [6, 7] (fun s6 s7 wx => s7 = .int .i64 0 ∧ ∃ R, s6 = .pointer (some ⟨R, 0, none⟩) ∧ OnceJ l ps.length w wx R ao)
  case first =>
    go_wp2_with fail
    refine (hcut _).mono ?_
    rintro e w2 ⟨rfl, hw2⟩
    have hv2 := hw2.symm
    subst hv2
    clear hw2 hcut
    go_wp2_with fail
    refine hplay.mono ?_
    rintro e w3 ⟨val, n, done, steps, holders, reads, marks, log, rfl, hV, ht, hst, hen, hle, hk3⟩
    obtain ⟨v0, v1, v2, v3, v4, v5, rfl, ⟨b0, rfl⟩, ⟨s0, rfl⟩, ⟨y0, y1, y2, rfl⟩, ⟨y3, y4, y5, rfl⟩, ⟨y6, y7, y8, rfl⟩, ⟨y9, y10, y11, rfl⟩, hF⟩ := once_of HR.out HM.out HK1.out HI1.out hV ht hst hen hle hk3
    have HF : Hid _ := hF
    clear hF hV ht hst hen hle hk3 hplay hlen
    go_wp2_with fail
    go_meet
    exact ⟨rfl, _, rfl, HF.out _ (Keeps.alloc None w3 _) (new_at w3 _ _ rfl)⟩
  case rest =>
    obtain ⟨rfl, R, rfl, n, done, holders, reads, marks, log, xh, ch, gl, ht, hdn, hkW, hIW, hHW, hBL, r0, r1, r2, r5⟩ := hcut
    have hl1 := hlen wc hIW
    have hT := toGo_le HR.out
    have hlg : log.length ≤ 1048576 := by have := ht.lg; unfold total at this; omega
    have hhl : holders.length ≤ 64 := by have h1 := ht.rh; have h2 := ht.rl; omega
    obtain ⟨o, hsc⟩ := ht.sc
    have HH : Hid _ := And.intro hkW (And.intro hHW (And.intro hBL hsc))
    have HD : Hid _ := hdn
    clear ht hdn hkW hIW hHW hBL hlen hplay hcut hsc hT
    obtain ⟨wQ, hwQ⟩ : ∃ wQ, wQ = wc := ⟨_, rfl⟩
    subst hwQ
    generalize hll : log.length = L at r1 r5 hlg
    generalize hhh : holders.length = Hn at r2 hhl
    have HL : Hid _ := And.intro hll hhh
    clear hll hhh
    go_upto_region 3 with fail
    go_cut [42] (fun s42 wx => s42 = .bool false ∧ wx = wQ)
    case first =>
      go_wp2_with fail
      refine hl1.mono ?_
      rintro e w2 ⟨rfl, hw2⟩
      have hv2 := hw2.symm
      subst hv2
      clear hw2 hl1
      by_cases h9 : total l ≤ ps.length
      · have e9 : done = true := HD.out h9
        subst e9
        have j2 : (total l : Int) ≤ (ps.length : Int) := by omega
        go_wp2_with fail
        go_meet
        exact ⟨rfl, rfl⟩
      · have j2 : ¬ (total l : Int) ≤ (ps.length : Int) := by omega
        go_wp2_with fail
        go_meet
        exact ⟨rfl, rfl⟩
    case rest =>
      obtain ⟨rfl, rfl⟩ := hcut
      have HC : Hid (∀ wx, Keeps None wc wx → wx.cell? ⟨R, 2, none⟩ = some (.slice xh Hn ch) ∧ wx.cell? ⟨R, 5, none⟩ = some (.slice (some ⟨gl, 0, none⟩) L L)) := fun wx hk => ⟨hk.cell r2 (fun f => f), hk.cell r5 (fun f => f)⟩
      clear hl1 r0 r1 r2 r5 HD
      obtain ⟨wN, hwN⟩ : ∃ wN, wN = wc := ⟨_, rfl⟩
      subst hwN
      go_wp2_with fail
      go_loopw [8, 9, 10] (fun s8 s9 s10 wr => ∃ (k q : Nat) (ow : Int), k ≤ L ∧ q ≤ Hn ∧ s8 = .int .i64 q ∧ s9 = .int .i64 ow ∧ s10 = .int .i64 k ∧ scan holders (some (0, -1)) (log.take k) = some (q, ow) ∧ Keeps None wN wr) (fun _ _ s10 _ => L - (intOf s10).toNat)
      case atStart => exact ⟨0, 0, -1, Nat.zero_le _, Nat.zero_le _, rfl, rfl, rfl, rfl, Keeps.refl _ _⟩
      case round =>
        obtain ⟨k, q, ow, hkL, hqH, rfl, rfl, rfl, hscan, hkr⟩ := hrel
        obtain ⟨r2, r5⟩ := HC.out wr hkr
        by_cases hk2 : k < L
        · have hk3 : k < log.length := by have := HL.out.1; omega
          obtain ⟨s', hs1, hs2⟩ := scan_next HH.out.2.2.2 k hk3 hscan
          have hx : log[k]? = some log[k] := List.getElem?_eq_getElem hk3
          have hbl := (hkr.block gl (Array.getElem?_eq_some_iff.1 HH.out.2.2.1).1 (fun f => f)).trans HH.out.2.2.1
          have hca : ∀ j u, (log[k]).vals[j]? = some u → wr.cell? ⟨gl, k * 6 + j, none⟩ = some u := fun j u hu => by
            rw [cell_of_block hbl]
            have := logVals_at8 log k _ hx j u hu
            simpa using this
          generalize log[k] = x at hs1 hca
          obtain ⟨x0, x1, x2, x3, x4, x5⟩ := x
          have y0 := hca 0 _ rfl
          have y1 := hca 1 _ rfl
          have y2 := hca 2 _ rfl
          have y3 := hca 3 _ rfl
          have y4 := hca 4 _ rfl
          have y5 := hca 5 _ rfl
          have hc1 := scan1_cases hs1
          have HS : Hid _ := And.intro hs2 hc1
          have HKR : Hid _ := hkr
          have i1 : (k : Int) < (L : Int) := by omega
          simp only [Nat.add_zero] at y0
          clear hca hbl hx hs1 hs2 hc1 hscan hkr r2
          go_upto_region 10 with fail
          go_cut [11] (fun s11 wx => ∃ X, s11 = .pointer (some ⟨X, 0, none⟩) ∧ wx.cell? ⟨X, 0, none⟩ = some (.int .i64 x0) ∧ wx.cell? ⟨X, 1, none⟩ = some (.int .i64 x1) ∧ wx.cell? ⟨X, 2, none⟩ = some (.int .i64 x2) ∧ wx.cell? ⟨X, 3, none⟩ = some (.int .i64 x3) ∧ wx.cell? ⟨X, 4, none⟩ = some (.int .i64 x4) ∧ Keeps None wN wx)
          case first =>
            go_wp2_with fail
            go_meet
            have hb := new_at wr (.cells #[.int .i64 x0, .int .i64 x1, .int .i64 x2, .int .i64 x3, .int .i64 x4, .bool x5] 56) _ rfl
            exact ⟨_, rfl, cell_of_block hb 0, cell_of_block hb 1, cell_of_block hb 2, cell_of_block hb 3, cell_of_block hb 4, HKR.out.andAlloc _⟩
          case rest =>
            obtain ⟨X, rfl, z0, z1, z2, z3, z4, hk6⟩ := hcut
            obtain ⟨r2, r5⟩ := HC.out wc hk6
            clear y0 y1 y2 y3 y4 y5
            have HK6 : Hid _ := hk6
            clear hk6 HKR
            obtain ⟨hs2, hc1⟩ := HS.out
            rcases hc1 with ⟨d1, d2, rfl⟩ | ⟨d1, d2, d3, d4, d5, d6, rfl⟩ | ⟨d1, d2, d3, d4, rfl⟩
            · have HX : Hid _ := hs2
              have b1 : (x2 == 1) = false := by simpa using d1
              have b2 : (x0 == ow) = false := by simpa using d2
              clear d1 d2 hs2 HS
              go_wp2_with fail
              go_roundw
              case rel => exact ⟨k + 1, q, ow, by omega, by omega, rfl, rfl, by go_num, HX.out, HK6.out⟩
              case measure => simp only [intOf]; omega
            · simp only at d1 d2 d3 d4 d6
              subst d1 d2 d3 d4
              have hq : q < Hn := by have := HL.out.2; omega
              obtain ⟨gh, cg, e1, hh⟩ := own_at9 HH.out.2.1 q d5
              have e2 : xh = some ⟨gh, 0, none⟩ := by injection e1
              subst e2
              have hh2 : wc.cell? ⟨gh, q, none⟩ = some (.int .i64 x0) := by
                rw [HK6.out.cell hh (fun f => f)]
                rw [← d6]
                simp [List.getD_eq_getElem?_getD, d5]
              have HX : Hid _ := hs2
              have j1 : ¬ (Hn : Int) ≤ (q : Int) := by omega
              have j2 : (q : Int) < (Hn : Int) := by omega
              have j3 : (Hn : Int) ≤ 64 := by omega
              clear hh e1 d5 d6 hs2 HS
              go_upto_region 15 with fail
              go_cut [90] (fun s90 wx => s90 = .bool false ∧ Keeps None wN wx)
              case first =>
                go_quiet (fail)
                all_goals (go_wp2_with fail; go_meet)
                all_goals exact ⟨rfl, HK6.out.trans (Keeps.drewM None _ _) (fun _ f _ => f)⟩
              case rest =>
                obtain ⟨rfl, hk7⟩ := hcut
                have HK7 : Hid _ := hk7
                clear hk7 z0 z1 z2 z3 z4 r2 r5 hh2
                go_wp2_with fail
                go_roundw
                case rel => exact ⟨k + 1, q + 1, -1, by omega, by omega, by go_num, rfl, by go_num, HX.out, HK7.out⟩
                case measure => simp only [intOf]; omega
            · simp only at d1 d2 d3 d4
              subst d1 d2
              have j1 : ¬ x4 < 0 := by omega
              have j2 : ¬ 0 ≤ ow := by omega
              have HX : Hid _ := hs2
              clear hs2 HS
              by_cases hb0 : x4 = 0
              · subst hb0
                clear d3
                go_wp2_with fail
                go_roundw
                case rel => exact ⟨k + 1, q, x0, by omega, by omega, rfl, rfl, by go_num, by simpa using HX.out, HK6.out⟩
                case measure => simp only [intOf]; omega
              · have b1 : (x4 == 0) = false := by simpa using hb0
                have HB0 : Hid _ := hb0
                clear hb0
                go_wp2_with fail
                go_roundw
                case rel => exact ⟨k + 1, q, ow, by omega, by omega, rfl, rfl, by go_num, by have := HX.out; simp only [if_neg HB0.out] at this; exact this, HK6.out⟩
                case measure => simp only [intOf]; omega
        · have i1 : ¬ (k : Int) < (L : Int) := by omega
          obtain rfl : k = L := by omega
          have e1 : q = Hn := by
            have h1 := HL.out
            rw [← h1.1, List.take_length, HH.out.2.2.2] at hscan
            injection hscan with hscan
            injection hscan with h2 h3
            omega
          subst e1
          have HKR : Hid _ := HH.out.1.trans hkr (fun _ f _ => f)
          clear hkr hscan
          go_wp2_with fail
          go_ret
          exact ⟨by simp, HKR.out⟩
end Go.Proofs.Ytlligclkoecknaa
