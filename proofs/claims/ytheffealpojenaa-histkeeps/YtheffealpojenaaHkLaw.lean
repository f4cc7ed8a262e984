import Derived.Test.YtheffealpojenaaHkPlain
import Derived.Test.YtheffealpojenaaHoOrder
import Derived.Test.YtheffealpojenaaOpenStruct
/-! The walk of HistKeeps. -/
namespace Go.Proofs.Ytheffealpojenaa
set_option linter.unusedVariables false
set_option maxRecDepth 20000
open Go.RowKit Go.HeapKit

theorem order_nil (w : World) : Calls Try.prog 6 #[.slice none 0 0, .int .i64 1] w fun e w' => ∃ v, e = .returned (.tuple #[v, .int .i64 0]) ∧ Keeps None w w' :=
  (order_ok none 0 0 [] 1 w ⟨rfl, fun h => by omega⟩ (by omega)).mono fun e w' h => by
    obtain ⟨v, er, rfl, hk, _, h2⟩ := h
    rcases h2 (by decide) with ⟨_, h3⟩ | ⟨rfl, _⟩
    · exact (shut_nil h3).elim
    · exact ⟨v, rfl, hk⟩
theorem order_two (a : Option Addr) (n c : Nat) (l : List Cl) (most : Int) (w : World) (hS : Seen w a n l) (hn : (n + 1) * 56 ≤ 140737488355328) : Calls Try.prog 6 #[.slice a n c, .int .i64 most] w fun e w' => ∃ v er, e = .returned (.tuple #[v, .int .i64 er]) ∧ Keeps None w w' ∧ (er = 0 → histB l = true ∧ ∃ m x zs, Rch l m x zs ∧ thrB l x 4 = true) :=
  (order_ok a n c l most w hS hn).mono fun e w' h => by
    obtain ⟨v, er, rfl, hk, h1, h2⟩ := h
    refine ⟨v, er, rfl, hk, fun e0 => ?_⟩
    have hb : badE l most = 0 := by
      by_cases hb : badE l most = 0
      · exact hb
      · exact absurd ((h1 hb).symm.trans e0) hb
    refine ⟨(badE_zero hb).2.2, ?_⟩
    rcases h2 hb with ⟨h3, _⟩ | ⟨_, x, zs, h3, _, h4⟩
    · omega
    · exact ⟨_, x, zs, h3, h4⟩
theorem take_one {l : List Cl} {q : Nat} {y : Cl} (hy : l[q]? = some y) : l.take (q + 1) = l.take q ++ [y] := by
  rw [List.take_add_one, hy]
  rfl
theorem cnt_more {p : Cl → Bool} {l : List Cl} {q : Nat} {y : Cl} (hy : l[q]? = some y) : cntL p l (q + 1) = cntL p l q + (if p y then 1 else 0) := by
  unfold cntL
  rw [take_one hy, List.countP_append, List.countP_singleton]
theorem ear_more {x : Cl} {l : List Cl} {q : Nat} {y : Cl} (hy : l[q]? = some y) : earL x l (q + 1) = (earL x l q || (pshB x.v y && decide (y.beg ≤ x.fin))) := by
  unfold earL
  rw [take_one hy, List.any_append]
  simp
theorem cnt_le (p : Cl → Bool) (l : List Cl) (q : Nat) : cntL p l q ≤ q := by
  unfold cntL
  refine Nat.le_trans List.countP_le_length ?_
  rw [List.length_take]
  omega
set_option maxHeartbeats 8000000 in
theorem histKeeps_walk (a : Option Addr) (n c : Nat) (l : List Cl) (most : Int) (w : World) (hS : Seen w a n l) (hn : n * 56 ≤ 140737488351232) :
    Calls Try.prog 3 #[.slice a n c, .int .i64 most] w fun e w' => e = .returned (.bool true) ∧ Below w.heap.size w w' := by
  have HS : Hid (Seen w a n l) := hS
  have HN : Hid (n = l.length) := hS.len
  clear hS
  go_enter Try.func3, Try.ntmps3
  go_wp2_with fail
  refine (order_nil w).mono ?_
  rintro e w1 ⟨v1, rfl, hk1⟩
  have HK1 : Hid (Keeps None w w1) := hk1
  clear hk1
  go_wp2_with fail
  refine (order_two a n c l most w1 (HS.out.more HK1.out) (by omega)).mono ?_
  rintro e w2 ⟨v2, er, rfl, hk2, hgood⟩
  have HK2 : Hid (Keeps None w w2) := HK1.out.trans hk2 (fun _ f _ => f)
  clear hk2 HK1
  by_cases h0 : er = 0
  · subst h0
    have HG : Hid (histB l = true ∧ ∃ m x zs, Rch l m x zs ∧ thrB l x 4 = true) := hgood rfl
    clear hgood
    go_wp2_with fail
    go_loopw [9] (fun i wr => ∃ k : Nat, k ≤ n ∧ i = .int .i64 k ∧ Keeps None w wr) (fun i _ => n - (intOf i).toNat)
    case atStart => exact ⟨0, Nat.zero_le _, rfl, HK2.out⟩
    case round =>
      clear HK2
      obtain ⟨k, hk, rfl, hkp⟩ := hrel
      by_cases hkn : k < n
      · obtain ⟨b, off, rfl, hb, hc⟩ := (HS.out.more hkp).ex (by omega)
        obtain ⟨x, hx⟩ : ∃ x, l[k]? = some x := ⟨l[k]'(by have := HN.out; omega), by simp⟩
        obtain ⟨u0, u1, u2, u3, u4, u5, u6⟩ := hc k x hx
        have i1 : (k : Int) < (n : Int) := by omega
        have kA := Keeps.alloc None wr (.cells #[.int .i64 x.who, .int .i64 x.kind, .int .i64 x.arg, .int .i64 x.beg, .int .i64 x.fin, .int .i64 x.code, .int .i64 x.v] 28)
        have bA := heap_alloc_new wr (.cells #[.int .i64 x.who, .int .i64 x.kind, .int .i64 x.arg, .int .i64 x.beg, .int .i64 x.fin, .int .i64 x.code, .int .i64 x.v] 28)
        obtain ⟨W8, hW8⟩ : ∃ W8, W8 = wr.alloc (.cells #[.int .i64 x.who, .int .i64 x.kind, .int .i64 x.arg, .int .i64 x.beg, .int .i64 x.fin, .int .i64 x.code, .int .i64 x.v] 28) := ⟨_, rfl⟩
        obtain ⟨B, hB⟩ : ∃ B, B = wr.heap.size := ⟨_, rfl⟩
        rw [← hW8] at kA bA
        rw [← hB] at bA
        have H8 : Hid (Keeps None w W8 ∧ l[k]? = some x ∧ W8.heap[B]? = some (.cells #[.int .i64 x.who, .int .i64 x.kind, .int .i64 x.arg, .int .i64 x.beg, .int .i64 x.fin, .int .i64 x.code, .int .i64 x.v] 28 (0, 0))) := ⟨hkp.trans kA (fun _ f _ => f), hx, bA⟩
        clear hkp hc hx kA bA hb
        go_upto_region 9 with fail
        rw [← hW8, ← hB]
        clear hW8 hB u0 u1 u2 u3 u4 u5 u6
        have a1 : W8.cell? ⟨B, 1, none⟩ = some (.int .i64 x.kind) := (blk_cell H8.out.2.2 1).trans rfl
        have a5 : W8.cell? ⟨B, 5, none⟩ = some (.int .i64 x.code) := (blk_cell H8.out.2.2 5).trans rfl
        by_cases hkd : x.kind = 0
        · rw [hkd] at a1
          go_wp2_with fail
          go_roundw
          case rel => exact ⟨k + 1, by omega, by go_num, H8.out.1⟩
          case measure => simp [intOf]; omega
        · have q1 : (x.kind == 0) = false := by simpa using hkd
          by_cases hcd : x.code = 4
          · have hcd4 : Hid (x.code = 4) := hcd
            have HKP : Hid (cntL (gotB x.v) l n ≤ cntL (pshB x.v) l n ∧ earL x l n = true) := by
              obtain ⟨hh, m, xx, zs, hr, ht⟩ := HG.out
              rw [HN.out]
              exact keeps_plain hh hr ht H8.out.2.1 ⟨hkd, hcd⟩
            clear hkd hcd HG a1 a5
            have a1 : W8.cell? ⟨B, 1, none⟩ = some (.int .i64 x.kind) := (blk_cell H8.out.2.2 1).trans rfl
            have a5 : W8.cell? ⟨B, 5, none⟩ = some (.int .i64 4) := by rw [← hcd4.out]; exact (blk_cell H8.out.2.2 5).trans rfl
            go_wp2_with fail
            go_loopw [11, 12, 13, 14] (fun g p e j w9 => ∃ q G P : Nat, ∃ E : Bool, q ≤ n ∧ j = .int .i64 q ∧ g = .int .i64 G ∧ p = .int .i64 P ∧ e = .bool E ∧ G = cntL (gotB x.v) l q ∧ P = cntL (pshB x.v) l q ∧ E = earL x l q ∧ Keeps None W8 w9) (fun _ _ _ j _ => n - (intOf j).toNat)
            case atStart => exact ⟨0, 0, 0, false, Nat.zero_le _, rfl, rfl, rfl, rfl, rfl, rfl, rfl, Keeps.refl _ _⟩
            case round =>
              clear a1 a5 q1
              obtain ⟨q, G, P, E, hq, rfl, rfl, rfl, rfl, hG, hP, hE, hk9⟩ := hrel
              have hGq : G ≤ q := hG ▸ cnt_le _ _ _
              have hPq : P ≤ q := hP ▸ cnt_le _ _ _
              by_cases hqn : q < n
              · obtain ⟨b', off', e', hb', hc⟩ := (HS.out.more (H8.out.1.trans hk9 (fun _ f _ => f))).ex (by omega)
                injection e' with e'
                injection e' with e1 e2
                subst e1 e2
                obtain ⟨y, hy⟩ : ∃ y, l[q]? = some y := ⟨l[q]'(by have := HN.out; omega), by simp⟩
                obtain ⟨u0, u1, u2, u3, u4, u5, u6⟩ := hc q y hy
                have i2 : (q : Int) < (n : Int) := by omega
                have kA := Keeps.alloc None wr (.cells #[.int .i64 y.who, .int .i64 y.kind, .int .i64 y.arg, .int .i64 y.beg, .int .i64 y.fin, .int .i64 y.code, .int .i64 y.v] 28)
                have bA := heap_alloc_new wr (.cells #[.int .i64 y.who, .int .i64 y.kind, .int .i64 y.arg, .int .i64 y.beg, .int .i64 y.fin, .int .i64 y.code, .int .i64 y.v] 28)
                obtain ⟨WD, hWD⟩ : ∃ WD, WD = wr.alloc (.cells #[.int .i64 y.who, .int .i64 y.kind, .int .i64 y.arg, .int .i64 y.beg, .int .i64 y.fin, .int .i64 y.code, .int .i64 y.v] 28) := ⟨_, rfl⟩
                obtain ⟨D, hD⟩ : ∃ D, D = wr.heap.size := ⟨_, rfl⟩
                rw [← hWD] at kA bA
                rw [← hD] at bA
                have H9 : Hid (Keeps None W8 WD ∧ l[q]? = some y ∧ WD.heap[D]? = some (.cells #[.int .i64 y.who, .int .i64 y.kind, .int .i64 y.arg, .int .i64 y.beg, .int .i64 y.fin, .int .i64 y.code, .int .i64 y.v] 28 (0, 0)) ∧ G = cntL (gotB x.v) l q ∧ P = cntL (pshB x.v) l q ∧ E = earL x l q) := ⟨hk9.trans kA (fun _ f _ => f), hy, bA, hG, hP, hE⟩
                clear hk9 hc hy kA bA hb' hG hP hE
                go_upto_region 17 with fail
                rw [← hWD, ← hD]
                clear hWD hD u0 u1 u2 u3 u4 u5 u6
                have d1 : WD.cell? ⟨D, 1, none⟩ = some (.int .i64 y.kind) := (blk_cell H9.out.2.2.1 1).trans rfl
                have d2 : WD.cell? ⟨D, 2, none⟩ = some (.int .i64 y.arg) := (blk_cell H9.out.2.2.1 2).trans rfl
                have d3 : WD.cell? ⟨D, 3, none⟩ = some (.int .i64 y.beg) := (blk_cell H9.out.2.2.1 3).trans rfl
                have d5 : WD.cell? ⟨D, 5, none⟩ = some (.int .i64 y.code) := (blk_cell H9.out.2.2.1 5).trans rfl
                have d6 : WD.cell? ⟨D, 6, none⟩ = some (.int .i64 y.v) := (blk_cell H9.out.2.2.1 6).trans rfl
                have c4 : WD.cell? ⟨B, 4, none⟩ = some (.int .i64 x.fin) := H9.out.1.cell ((blk_cell H8.out.2.2 4).trans rfl) (fun f => f)
                have c6 : WD.cell? ⟨B, 6, none⟩ = some (.int .i64 x.v) := H9.out.1.cell ((blk_cell H8.out.2.2 6).trans rfl) (fun f => f)
                have HR : Hid (∀ (G' P' : Nat) (E' : Bool), G' = G + (if gotB x.v y then 1 else 0) → P' = P + (if pshB x.v y then 1 else 0) → E' = (E || (pshB x.v y && decide (y.beg ≤ x.fin))) → G' = cntL (gotB x.v) l (q + 1) ∧ P' = cntL (pshB x.v) l (q + 1) ∧ E' = earL x l (q + 1) ∧ Keeps None W8 WD) := fun G' P' E' h1 h2 h3 => by
                  obtain ⟨hk, hy, _, hG, hP, hE⟩ := H9.out
                  rw [cnt_more hy, cnt_more hy, ear_more hy, ← hG, ← hP, ← hE]
                  exact ⟨h1, h2, h3, hk⟩
                clear H9
                by_cases hk0 : y.kind = 0
                · have g0 : gotB x.v y = false := by simp [gotB, hk0]
                  rw [hk0] at d1
                  by_cases hc3 : y.code = 3
                  · have p0 : pshB x.v y = false := by simp [pshB, hc3]
                    have HR2 : Hid _ := HR.out G P E (by rw [g0]; rfl) (by rw [p0]; rfl) (by rw [p0]; simp)
                    rw [hc3] at d5
                    clear HR hk0 hc3 g0 p0
                    go_wp2_with fail
                    go_roundw
                    case rel => exact ⟨q + 1, G, P, E, by omega, by go_num, rfl, rfl, rfl, HR2.out⟩
                    case measure => simp [intOf]; omega
                  · have q5 : (y.code != 3) = true := by simpa using hc3
                    by_cases ha : y.arg = x.v
                    · have p0 : pshB x.v y = true := by simp [pshB, hk0, hc3, ha]
                      rw [ha] at d2
                      cases E with
                      | true =>
                        have HR2 : Hid _ := HR.out G (P + 1) true (by rw [g0]; rfl) (by rw [p0]; rfl) rfl
                        clear HR hk0 hc3 g0 p0 ha
                        go_wp2_with fail
                        go_roundw
                        case rel => exact ⟨q + 1, G, P + 1, true, by omega, by go_num, rfl, by go_num, rfl, HR2.out⟩
                        case measure => simp [intOf]; omega
                      | false =>
                        by_cases hbf : y.beg ≤ x.fin
                        · have HR2 : Hid _ := HR.out G (P + 1) true (by rw [g0]; rfl) (by rw [p0]; rfl) (by rw [p0]; simp [hbf])
                          clear HR hk0 hc3 g0 p0 ha
                          go_wp2_with fail
                          go_roundw
                          case rel => exact ⟨q + 1, G, P + 1, true, by omega, by go_num, rfl, by go_num, rfl, HR2.out⟩
                          case measure => simp [intOf]; omega
                        · have HR2 : Hid _ := HR.out G (P + 1) false (by rw [g0]; rfl) (by rw [p0]; rfl) (by rw [p0]; simp; omega)
                          clear HR hk0 hc3 g0 p0 ha
                          go_wp2_with fail
                          go_roundw
                          case rel => exact ⟨q + 1, G, P + 1, false, by omega, by go_num, rfl, by go_num, rfl, HR2.out⟩
                          case measure => simp [intOf]; omega
                    · have q2 : (y.arg == x.v) = false := by simpa using ha
                      have p0 : pshB x.v y = false := by simp [pshB, ha]
                      have HR2 : Hid _ := HR.out G P E (by rw [g0]; rfl) (by rw [p0]; rfl) (by rw [p0]; simp)
                      clear HR hk0 hc3 g0 p0 ha
                      go_wp2_with fail
                      go_roundw
                      case rel => exact ⟨q + 1, G, P, E, by omega, by go_num, rfl, rfl, rfl, HR2.out⟩
                      case measure => simp [intOf]; omega
                · have p0 : pshB x.v y = false := by simp [pshB, hk0]
                  have q1 : (y.kind != 0) = true := by simpa using hk0
                  have q0 : (y.kind == 0) = false := by simpa using hk0
                  by_cases hc4 : y.code = 4
                  · rw [hc4] at d5
                    by_cases hv : y.v = x.v
                    · have g0 : gotB x.v y = true := by simp [gotB, hk0, hc4, hv]
                      have HR2 : Hid _ := HR.out (G + 1) P E (by rw [g0]; rfl) (by rw [p0]; rfl) (by rw [p0]; simp)
                      rw [hv] at d6
                      clear HR hk0 hc4 g0 p0 hv
                      go_wp2_with fail
                      go_roundw
                      case rel => exact ⟨q + 1, G + 1, P, E, by omega, by go_num, by go_num, rfl, rfl, HR2.out⟩
                      case measure => simp [intOf]; omega
                    · have q6 : (y.v == x.v) = false := by simpa using hv
                      have g0 : gotB x.v y = false := by simp [gotB, hv]
                      have HR2 : Hid _ := HR.out G P E (by rw [g0]; rfl) (by rw [p0]; rfl) (by rw [p0]; simp)
                      clear HR hk0 hc4 g0 p0 hv
                      go_wp2_with fail
                      go_roundw
                      case rel => exact ⟨q + 1, G, P, E, by omega, by go_num, rfl, rfl, rfl, HR2.out⟩
                      case measure => simp [intOf]; omega
                  · have q5 : (y.code == 4) = false := by simpa using hc4
                    have g0 : gotB x.v y = false := by simp [gotB, hc4]
                    have HR2 : Hid _ := HR.out G P E (by rw [g0]; rfl) (by rw [p0]; rfl) (by rw [p0]; simp)
                    clear HR hk0 hc4 g0 p0
                    go_wp2_with fail
                    go_roundw
                    case rel => exact ⟨q + 1, G, P, E, by omega, by go_num, rfl, rfl, rfl, HR2.out⟩
                    case measure => simp [intOf]; omega
              · have hqn2 : q = n := by omega
                subst hqn2
                have hE1 : E = true := hE.trans HKP.out.2
                have hGP : G ≤ P := by rw [hG, hP]; exact HKP.out.1
                subst hE1
                have HF : Hid (Keeps None w wr) := H8.out.1.trans hk9 (fun _ f _ => f)
                clear hk9 hG hP hE hqn hq
                have i5 : ¬ (P : Int) < (G : Int) := by omega
                go_wp2_with fail
                go_roundw
                case rel => exact ⟨k + 1, by omega, by go_num, HF.out⟩
                case measure => simp [intOf]; omega
          · have q5 : (x.code != 4) = true := by simpa using hcd
            clear hkd hcd
            go_wp2_with fail
            go_roundw
            case rel => exact ⟨k + 1, by omega, by go_num, H8.out.1⟩
            case measure => simp [intOf]; omega
      · have hkn2 : k = n := by omega
        subst hkn2
        have HF : Hid (Below w.heap.size w wr) := hkp.below _ (Nat.le_refl _) (fun _ f => f.elim)
        clear hkp hkn
        go_wp2_with fail
        go_ret
        exact ⟨rfl, HF.out⟩
  · have hq : (er != 0) = true := by simpa using h0
    clear hgood h0
    go_wp2_with fail
    go_ret
    exact ⟨rfl, HK2.out.below _ (Nat.le_refl _) (fun _ f => f.elim)⟩
end Go.Proofs.Ytheffealpojenaa
