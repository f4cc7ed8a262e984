import Derived.Test.YtheginjjncnheaaHwPlain2
import Derived.Deep.RegionHeld3
import Derived.Deep.LoopGhost
import Derived.Deep.CutBlock
import Derived.Lib.MinMax
/-! The calls of a plain run, drawn apart: the law's own function. -/
namespace Go.Proofs.Ytheginjjncnheaa
set_option linter.unusedVariables false
set_option maxRecDepth 20000
set_option linter.unusedSimpArgs false
open Go.RowKit Go.HeapKit

theorem tmod_bounds4 (x n : Int) (hn : 1 ≤ n) : -n < x.tmod n ∧ x.tmod n < n := by
  rw [Int.tmod_eq_emod]
  have h0 := Int.emod_nonneg x (b := n) (by omega)
  have h1 := Int.emod_lt_of_pos x (b := n) (by omega)
  split <;> omega
set_option maxHeartbeats 400000 in
theorem lawmod_ok (x n : Int) (w : World) (hn : 1 ≤ n) (hn2 : n ≤ 100000) : Calls Try.prog 5 #[.int .i64 x, .int .i64 n] w fun e w' => ∃ r, e = .returned (.int .i64 r) ∧ 0 ≤ r ∧ r < n ∧ w' = w := by
  obtain ⟨b0, b1⟩ := tmod_bounds4 x n hn
  by_cases hr : x.tmod n < 0
  · go_enter Try.func5, Try.ntmps5
    go_wp2
    go_ret
    exact ⟨_, rfl, by omega, by omega, rfl⟩
  · go_enter Try.func5, Try.ntmps5
    go_wp2
    go_ret
    exact ⟨_, rfl, by omega, by omega, rfl⟩
/-- A list of three numbers each that can be read. -/
structure SeenW (w : World) (a : Option Addr) (n : Nat) (l : List (Int × Int × Int)) : Prop where
  len : n = l.length
  ex : 0 < n → ∃ b off, a = some ⟨b, off, none⟩ ∧ b < w.heap.size ∧ ∀ k x, l[k]? = some x → w.cell? ⟨b, off + k * 3, none⟩ = some (.int .i64 x.1) ∧ w.cell? ⟨b, off + k * 3 + 1, none⟩ = some (.int .i64 x.2.1) ∧ w.cell? ⟨b, off + k * 3 + 2, none⟩ = some (.int .i64 x.2.2)
theorem SeenW.more {w w' : World} {a : Option Addr} {n : Nat} {l : List (Int × Int × Int)} (h : SeenW w a n l) (hk : Keeps None w w') : SeenW w' a n l := by
  refine ⟨h.len, fun h0 => ?_⟩
  obtain ⟨b, off, rfl, hb, hc⟩ := h.ex h0
  exact ⟨b, off, rfl, Nat.lt_of_lt_of_le hb hk.size, fun k x hx => ⟨hk.cell (hc k x hx).1 (fun f => f), hk.cell (hc k x hx).2.1 (fun f => f), hk.cell (hc k x hx).2.2 (fun f => f)⟩⟩
theorem bldW (w : World) : (Instr.build 69 #[]).run Try.prog w = .ok (.agg #[.int .i64 0, .int .i64 0, .int .i64 0]) w := run_build _ _ _ _ (by kernel_rfl)
def lastA (L : Nat → Int) : Array Value := #[.int .i64 (L 0), .int .i64 (L 1), .int .i64 (L 2), .int .i64 (L 3)]
theorem lastA_at (L : Nat → Int) {i : Nat} (hi : i < 4) : (lastA L)[i]? = some (.int .i64 (L i)) := by
  rcases i with _ | _ | _ | _ | i
  · rfl
  · rfl
  · rfl
  · rfl
  · omega
theorem lastA_set (L : Nat → Int) {i : Nat} (hi : i < 4) (z : Int) : (lastA L).setIfInBounds i (.int .i64 z) = lastA (fun a => if a = i then z else L a) := by
  rcases i with _ | _ | _ | _ | i
  · rfl
  · rfl
  · rfl
  · rfl
  · omega
def clA (x : Cl) : Array Value := #[.int .i64 x.who, .int .i64 x.kind, .int .i64 x.arg, .int .i64 x.beg, .int .i64 x.fin, .int .i64 x.code, .int .i64 x.v]
theorem clA_cells {w : World} {C : Nat} {x : Cl} (h : w.heap[C]? = some (.cells (clA x) 49 (0, 0))) : w.cell? ⟨C, 0, none⟩ = some (.int .i64 x.who) ∧ w.cell? ⟨C, 1, none⟩ = some (.int .i64 x.kind) ∧ w.cell? ⟨C, 2, none⟩ = some (.int .i64 x.arg) ∧ w.cell? ⟨C, 3, none⟩ = some (.int .i64 x.beg) ∧ w.cell? ⟨C, 4, none⟩ = some (.int .i64 x.fin) ∧ w.cell? ⟨C, 5, none⟩ = some (.int .i64 x.code) ∧ w.cell? ⟨C, 6, none⟩ = some (.int .i64 x.v) :=
  ⟨(blk_cell h 0).trans rfl, (blk_cell h 1).trans rfl, (blk_cell h 2).trans rfl, (blk_cell h 3).trans rfl, (blk_cell h 4).trans rfl, (blk_cell h 5).trans rfl, (blk_cell h 6).trans rfl⟩
/-- In the middle of a round: the call and its widths in boxes of their own. -/
structure MidW (w W : World) (A C : Nat) (L : Nat → Int) (sv : Value) (k : Nat) (r : List Cl) (y : Cl) (u : Int × Int × Int) : Prop where
  row : W.ownsRow w.heap.size 49 7 sv k (clVals r)
  last : W.heap[A]? = some (.cells (lastA L) 61 (0, 0))
  keep : Keeps None w W
  call : W.heap[C]? = some (.cells (clA y) 49 (0, 0))
  wide : W.heap[C + 1]? = some (.cells #[.int .i64 u.1, .int .i64 u.2.1, .int .i64 u.2.2] 69 (0, 0))
  ac : A < C
  low : ∀ g, sv.ownBlock = some g → g < C
  wc : w.heap.size ≤ C
section
variable {w W W' : World} {A C : Nat} {L : Nat → Int} {sv : Value} {k : Nat} {r : List Cl} {y : Cl} {u : Int × Int × Int}
theorem MidW.more (h : MidW w W A C L sv k r y u) (hk : Keeps None W W') : MidW w W' A C L sv k r y u := ⟨row_kept h.row hk (fun _ _ f => f), blk_kept h.last hk (fun f => f), h.keep.trans hk (fun _ f _ => f), blk_kept h.call hk (fun f => f), blk_kept h.wide hk (fun f => f), h.ac, h.low, h.wc⟩
theorem MidW.put (h : MidW w W A C L sv k r y u) {j : Nat} {v : Value} {y' : Cl} (hy : (clA y).setIfInBounds j v = clA y') : MidW w (W.setCell ⟨C, j, none⟩ v) A C L sv k r y' u := by
  have hk : Keeps (· = C) W (W.setCell ⟨C, j, none⟩ v) := Keeps.setCell (S := (· = C)) W (a := ⟨C, j, none⟩) rfl _
  have := h.ac
  have := h.wc
  exact ⟨row_kept h.row hk (fun g e e2 => by have := h.low g e; omega), blk_kept h.last hk (by omega), h.keep.trans hk (fun i e hi => by omega), by rw [blk_set h.call, hy], blk_kept h.wide hk (by omega), h.ac, h.low, h.wc⟩
theorem MidW.wides (h : MidW w W A C L sv k r y u) (u' : Int × Int × Int) : MidW w (((W.setCell ⟨C + 1, 0, none⟩ (.int .i64 u'.1)).setCell ⟨C + 1, 1, none⟩ (.int .i64 u'.2.1)).setCell ⟨C + 1, 2, none⟩ (.int .i64 u'.2.2)) A C L sv k r y u' := by
  have hk : Keeps (· = C + 1) W (((W.setCell ⟨C + 1, 0, none⟩ (.int .i64 u'.1)).setCell ⟨C + 1, 1, none⟩ (.int .i64 u'.2.1)).setCell ⟨C + 1, 2, none⟩ (.int .i64 u'.2.2)) := keeps_one (keeps_one (keeps_one (Keeps.refl _ W) _) _) _
  have := h.ac
  have := h.wc
  exact ⟨row_kept h.row hk (fun g e e2 => by have := h.low g e; omega), blk_kept h.last hk (by omega), h.keep.trans hk (fun i e hi => by omega), blk_kept h.call hk (by omega), by rw [blk_set (blk_set (blk_set h.wide _) _)]; rfl, h.ac, h.low, h.wc⟩
theorem MidW.setL (h : MidW w W A C L sv k r y u) (hA : w.heap.size ≤ A) (hsv : ∀ g, sv.ownBlock = some g → g ≠ A) {i : Nat} (hi : i < 4) (z : Int) : MidW w (W.setCell ⟨A, i, none⟩ (.int .i64 z)) A C (fun a => if a = i then z else L a) sv k r y u := by
  have hk : Keeps (· = A) W (W.setCell ⟨A, i, none⟩ (.int .i64 z)) := Keeps.setCell (S := (· = A)) W (a := ⟨A, i, none⟩) rfl _
  have := h.ac
  have := h.wc
  exact ⟨row_kept h.row hk (fun g e e2 => hsv g e e2), by rw [blk_set h.last, lastA_set L hi], h.keep.trans hk (fun i e hi => by omega), blk_kept h.call hk (by omega), blk_kept h.wide hk (by omega), h.ac, h.low, h.wc⟩
end
/-- What is told. -/
def WidePost (w : World) (cs : List Cl) (e : Ending) (w' : World) : Prop := ∃ v' L r, e = .returned v' ∧ WS cs cs.length L r ∧ w'.ownsRow w.heap.size 49 7 v' r.length (clVals r) ∧ Keeps None w w'
set_option maxHeartbeats 8000000 in
theorem widened_ok (a : Option Addr) (n c : Nat) (cs : List Cl) (b : Option Addr) (m d : Nat) (ws : List (Int × Int × Int)) (w : World) (hS : Seen w a n cs) (hW : SeenW w b m ws) (h40 : n ≤ 40) (hm : m * 24 ≤ 140737488355328) (hw : ∀ y ∈ cs, y.who = 0 ∨ y.who = 1) :
    Calls Try.prog 8 #[.slice a n c, .slice b m d] w (WidePost w cs) := by
  have kA := Keeps.alloc None w (.cells #[.int .i64 0, .int .i64 0, .int .i64 0, .int .i64 0] 61)
  have bA := heap_alloc_new w (.cells #[.int .i64 0, .int .i64 0, .int .i64 0, .int .i64 0] 61)
  obtain ⟨W0, hW0⟩ : ∃ W0, W0 = w.alloc (.cells #[.int .i64 0, .int .i64 0, .int .i64 0, .int .i64 0] 61) := ⟨_, rfl⟩
  obtain ⟨A, hA⟩ : ∃ A, A = w.heap.size := ⟨_, rfl⟩
  rw [← hW0] at kA bA
  rw [← hA] at bA
  have H0 : Hid (Keeps None w W0 ∧ W0.heap[A]? = some (.cells (lastA (fun _ => 0)) 61 (0, 0))) := ⟨kA, bA⟩
  have HS : Hid (Seen w a n cs ∧ SeenW w b m ws ∧ n = cs.length ∧ (∀ y ∈ cs, y.who = 0 ∨ y.who = 1) ∧ A = w.heap.size) := ⟨hS, hW, hS.len, hw, hA⟩
  clear hS hW kA bA hw
  go_enter Try.func8, Try.ntmps8
  go_upto_block 0 with fail
  rw [← hW0, ← hA]
  clear hW0 hA
  obtain ⟨n₀, hn₀⟩ : ∃ n₀ : Nat, n₀ = n := ⟨_, rfl⟩
  have HN : Hid (n₀ = n) := hn₀
  clear hn₀
  go_wp2_with fail
  go_loopg [6, 7] n₀ (fun gk s6 s7 wr => ∃ (k : Nat) (L : Nat → Int) (r : List Cl), gk + k = n ∧ s7 = .int .i64 k ∧ WS cs k L r ∧ wr.ownsRow w.heap.size 49 7 s6 k (clVals r) ∧ wr.heap[A]? = some (.cells (lastA L) 61 (0, 0)) ∧ Keeps None w wr)
  case atStart => exact ⟨0, _, [], HN.out, rfl, WS.nil cs, row_nil _ _ _ _, H0.out.2, H0.out.1⟩
  case round =>
    clear H0 HN
    obtain ⟨k, L, r, hk, rfl, hws, hrow, hbA, hkp⟩ := hrel
    obtain ⟨sa, cs0, rfl⟩ := row_shape hrow
    by_cases hkn : k < n
    · have i1 : (k : Int) < (n : Int) := by omega
      obtain ⟨ba, off, rfl, hb, hc⟩ := (HS.out.1.more hkp).ex (by omega)
      obtain ⟨x, hx⟩ : ∃ x, cs[k]? = some x := ⟨cs[k]'(by have := HS.out.2.2.1; omega), by simp⟩
      obtain ⟨y0, y1, y2, y3, y4, y5, y6⟩ := hc k x hx
      -- c := calls[i]; w := Wide{}
      have k1 : Keeps None wr ((wr.alloc (.cells #[.int .i64 x.who, .int .i64 x.kind, .int .i64 x.arg, .int .i64 x.beg, .int .i64 x.fin, .int .i64 x.code, .int .i64 x.v] 49)).alloc (.cells #[.int .i64 0, .int .i64 0, .int .i64 0] 69)) := ((Keeps.refl _ wr).andAlloc _).andAlloc _
      have b1 := blk_kept (heap_alloc_new wr (.cells #[.int .i64 x.who, .int .i64 x.kind, .int .i64 x.arg, .int .i64 x.beg, .int .i64 x.fin, .int .i64 x.code, .int .i64 x.v] 49)) (Keeps.alloc None _ (.cells #[.int .i64 0, .int .i64 0, .int .i64 0] 69)) (fun f => f)
      have b2 := heap_alloc_new (wr.alloc (.cells #[.int .i64 x.who, .int .i64 x.kind, .int .i64 x.arg, .int .i64 x.beg, .int .i64 x.fin, .int .i64 x.code, .int .i64 x.v] 49)) (.cells #[.int .i64 0, .int .i64 0, .int .i64 0] 69)
      obtain ⟨W1, hW1⟩ : ∃ W1, W1 = (wr.alloc (.cells #[.int .i64 x.who, .int .i64 x.kind, .int .i64 x.arg, .int .i64 x.beg, .int .i64 x.fin, .int .i64 x.code, .int .i64 x.v] 49)).alloc (.cells #[.int .i64 0, .int .i64 0, .int .i64 0] 69) := ⟨_, rfl⟩
      obtain ⟨C, hC⟩ : ∃ C, C = wr.heap.size := ⟨_, rfl⟩
      have sC : (wr.alloc (.cells #[.int .i64 x.who, .int .i64 x.kind, .int .i64 x.arg, .int .i64 x.beg, .int .i64 x.fin, .int .i64 x.code, .int .i64 x.v] 49)).heap.size = C + 1 := by rw [hC]; simp
      rw [sC] at b2
      rw [← hW1] at k1 b1 b2
      rw [← hC] at b1
      have hbw := bldW (wr.alloc (.cells #[.int .i64 x.who, .int .i64 x.kind, .int .i64 x.arg, .int .i64 x.beg, .int .i64 x.fin, .int .i64 x.code, .int .i64 x.v] 49))
      have H1 : Hid (MidW w W1 A C L (.slice sa k cs0) k r x (0, 0, 0)) := by
        refine ⟨row_kept hrow k1 (fun _ _ f => f), blk_kept hbA k1 (fun f => f), hkp.trans k1 (fun _ f _ => f), b1, b2, ?_, fun g e => ?_, ?_⟩
        · have := (Array.getElem?_eq_some_iff.1 hbA).1; omega
        · have := own_lt hrow e; omega
        · have := hkp.size; omega
      have HX : Hid (WS cs k L r ∧ cs[k]? = some x ∧ (∀ g, (Value.slice sa k cs0).ownBlock = some g → g ≠ A)) := by
        refine ⟨hws, hx, fun g e e2 => ?_⟩
        obtain ⟨cur, hc⟩ := own_block hrow e
        rw [e2, hbA] at hc
        injection hc with hc
        injection hc with _ hc
        exact absurd hc (by decide)
      clear hws hrow hbA hkp hc hx hb k1 b1 b2 sC
      go_upto_if 26 with fail
      rw [← hW1, ← hC]
      clear hW1 hC hbw y0 y1 y2 y3 y4 y5 y6
      go_cut [] (fun wx => ∃ u, MidW w wx A C L (.slice sa k cs0) k r x u)
      case first =>
        by_cases hkm : k < m
        · have i2 : (k : Int) < (m : Int) := by omega
          have hdm : decide (k < m) = true := decide_eq_true hkm
          obtain ⟨bb, oo, rfl, hb, hc⟩ := (HS.out.2.1.more H1.out.keep).ex (by omega)
          obtain ⟨⟨u0, u1, u2⟩, hu⟩ : ∃ u, ws[k]? = some u := ⟨ws[k]'(by have := HS.out.2.1.len; omega), by simp⟩
          obtain ⟨v0, v1, v2⟩ := hc k _ hu
          simp only at v0 v1 v2
          have bD := H1.out.wide
          have d0 : W1.cell? ⟨C + 1, 0, none⟩ = some (.int .i64 0) := (blk_cell bD 0).trans rfl
          have d1 : W1.cell? ⟨C + 1, 1, none⟩ = some (.int .i64 0) := (blk_cell bD 1).trans rfl
          have d2 : W1.cell? ⟨C + 1, 2, none⟩ = some (.int .i64 0) := (blk_cell bD 2).trans rfl
          have f0 := blk_free bD 0
          have f1 := blk_free bD 1
          have f2 := blk_free bD 2
          have HF : Hid _ := H1.out.wides (u0, u1, u2)
          clear hc hu bD hb H1
          go_wp2_with fail
          go_meet
          exact ⟨_, HF.out⟩
        · have hdm : decide (k < m) = false := decide_eq_false hkm
          go_wp2_with fail
          go_meet
          exact ⟨_, H1.out⟩
      case rest =>
        obtain ⟨⟨u0, u1, u2⟩, h2⟩ := hcut
        have H2 : Hid _ := h2
        clear h2 H1
        generalize wc = W2 at *
        obtain ⟨y0, y1, y2, y3, y4, y5, y6⟩ := clA_cells H2.out.call
        go_upto_if 33 with fail
        go_cut [] (fun wx => ∃ i : Nat, i < 4 ∧ (i = 0 ↔ x.who = 0) ∧ MidW w wx A C L (.slice sa k cs0) k r ⟨i, x.kind, x.arg, x.beg, x.fin, x.code, x.v⟩ (u0, u1, u2))
        case first =>
          by_cases hw0 : x.who = 0
          · have q1 : (x.who != 0) = false := by simp [hw0]
            have HF : Hid (MidW w W2 A C L (.slice sa k cs0) k r ⟨((0 : Nat) : Int), x.kind, x.arg, x.beg, x.fin, x.code, x.v⟩ (u0, u1, u2)) := by
              have e : x = ⟨((0 : Nat) : Int), x.kind, x.arg, x.beg, x.fin, x.code, x.v⟩ := by
                obtain ⟨a0, a1, a2, a3, a4, a5, a6⟩ := x
                simp only at hw0
                rw [hw0]
                rfl
              rw [← e]
              exact H2.out
            have HW0 : Hid (x.who = 0) := hw0
            clear hw0
            go_wp2_with fail
            go_meet
            exact ⟨0, by omega, ⟨fun _ => HW0.out, fun _ => rfl⟩, HF.out⟩
          · have q1 : (x.who != 0) = true := by simpa using hw0
            have HW0 : Hid (¬ x.who = 0) := hw0
            have d0 : W2.cell? ⟨C + 1, 0, none⟩ = some (.int .i64 u0) := (blk_cell H2.out.wide 0).trans rfl
            have f0 := blk_free H2.out.call 0
            have HM : Hid _ := lawmod_ok u0 3 W2 (by decide) (by decide)
            clear hw0
            go_wp2_with (go_at_call 5; refine Calls.mono HM.out ?_; rintro _ w5 ⟨rr, rfl, hr0, hr1, hw5⟩; have hw5' := hw5.symm; subst hw5'; clear hw5)
            go_meet
            refine ⟨(1 + rr).toNat, by omega, ⟨fun e => by omega, fun e => absurd e HW0.out⟩, ?_⟩
            refine H2.out.put ?_
            rw [show (((1 + rr).toNat : Nat) : Int) = 1 + rr by omega]
            rfl
        case rest =>
          obtain ⟨i, hi, hiw, h3⟩ := hcut
          have H3 : Hid _ := h3
          have HI : Hid (i = 0 ↔ x.who = 0) := hiw
          clear h3 H2 hiw y0 y1 y2 y3 y4 y5 y6
          generalize wc = W3 at *
          have hk40 : k ≤ 40 := by omega
          obtain ⟨z0, z1, z2, z3, z4, z5, z6⟩ := clA_cells H3.out.call
          simp only at z0 z1 z2 z3 z4 z5 z6
          have i4 : (i : Int) < 4 := by omega
          have l0 : W3.cell? ⟨A, i, none⟩ = some (.int .i64 (L i)) := (blk_cell H3.out.last i).trans (lastA_at L hi)
          have d1 : W3.cell? ⟨C + 1, 1, none⟩ = some (.int .i64 u1) := (blk_cell H3.out.wide 1).trans rfl
          have f3 := blk_free H3.out.call 3
          have HM1 : Hid (∀ w', Calls Try.prog 5 #[.int .i64 u1, .int .i64 1000] w' fun e w'' => ∃ r, e = .returned (.int .i64 r) ∧ 0 ≤ r ∧ r < 1000 ∧ w'' = w') := fun w' => lawmod_ok u1 1000 w' (by decide) (by decide)
          have HM2 : Hid (∀ w', Calls Try.prog 5 #[.int .i64 u2, .int .i64 1000] w' fun e w'' => ∃ r, e = .returned (.int .i64 r) ∧ 0 ≤ r ∧ r < 1000 ∧ w'' = w') := fun w' => lawmod_ok u2 1000 w' (by decide) (by decide)
          go_upto_region 13 with fail
          go_cut [] (fun wx => ∃ u : Int, 0 ≤ u ∧ MidW w wx A C L (.slice sa k cs0) k r ⟨i, x.kind, x.arg, max (L i) (100 * (k : Int) + 50 - u), x.fin, x.code, x.v⟩ (u0, u1, u2))
          case first =>
            go_region_with (first | (go_at_call 5; refine Calls.mono (HM1.out _) ?_; rintro _ w5 ⟨rr, rfl, hr0, hr1, hw5⟩; have hw5' := hw5.symm; subst hw5'; clear hw5))
            all_goals (go_wp2_with fail; go_meet)
            all_goals (refine ⟨rr, hr0, ?_⟩; have hwr : IntKind.i64.wrap (100 * (k : Int) + 50 - rr) = 100 * (k : Int) + 50 - rr := (by rw [IntKind.wrap_i64]; omega); rw [hwr]; first | exact (H3.out.put rfl).more (Keeps.drew None _) | exact (H3.out.more (Keeps.drew None _)).put rfl)
          case rest =>
            obtain ⟨ub, hub, h4⟩ := hcut
            have H4 : Hid _ := h4
            clear h4 H3 z0 z1 z2 z3 z4 z5 z6 l0 d1 f3 HM1
            generalize hbeg : max (L i) (100 * (k : Int) + 50 - ub) = beg at *
            have HB : Hid (max (L i) (100 * (k : Int) + 50 - ub) = beg) := hbeg
            clear hbeg
            generalize wc = W4 at *
            obtain ⟨z0, z1, z2, z3, z4, z5, z6⟩ := clA_cells H4.out.call
            simp only at z0 z1 z2 z3 z4 z5 z6
            have d2 : W4.cell? ⟨C + 1, 2, none⟩ = some (.int .i64 u2) := (blk_cell H4.out.wide 2).trans rfl
            have f4 := blk_free H4.out.call 4
            go_upto_block 2 with (go_at_call 5; refine Calls.mono (HM2.out _) ?_; rintro _ w5 ⟨rr, rfl, hr0, hr1, hw5⟩; have hw5' := hw5.symm; subst hw5'; clear hw5)
            clear d2 f4 z0 z1 z2 z3 z4 z5 z6 HM2
            have h5 := H4.out.put (j := 4) (v := .int .i64 (100 * (k : Int) + 50 + rr)) (y' := ⟨i, x.kind, x.arg, beg, 100 * (k : Int) + 50 + rr, x.code, x.v⟩) rfl
            obtain ⟨W5, hW5⟩ : ∃ W5, W5 = W4.setCell ⟨C, 4, none⟩ (.int .i64 (100 * (k : Int) + 50 + rr)) := ⟨_, rfl⟩
            rw [← hW5] at h5 ⊢
            obtain ⟨f0, hf0⟩ : ∃ f0, f0 = 100 * (k : Int) + 50 + rr := ⟨_, rfl⟩
            rw [← hf0] at h5
            have H5 : Hid _ := h5
            clear h5 hW5 H4
            have hf1 : 100 * (k : Int) + 50 ≤ f0 := by omega
            have hf2 : f0 ≤ 100 * (k : Int) + 50 + 999 := by omega
            clear hf0 hr0 hr1
            go_cut [] (fun wx => ∃ fin : Int, 100 * (k : Int) + 50 ≤ fin ∧ fin ≤ 100 * (k : Int) + 50 + 999 ∧ (∀ (j : Nat) (y : Cl), k < j → cs[j]? = some y → y.who = x.who → fin ≤ 100 * (j : Int) + 49) ∧ MidW w wx A C L (.slice sa k cs0) k r ⟨i, x.kind, x.arg, beg, fin, x.code, x.v⟩ (u0, u1, u2))
            case first =>
              go_wp2_with fail
              obtain ⟨n₁, hn₁⟩ : ∃ n₁ : Nat, n₁ + (k + 1) = n := ⟨n - (k + 1), by omega⟩
              go_loopg [11] n₁ (fun gj s11 w6 => ∃ j : Nat, k + 1 ≤ j ∧ gj + j = n ∧ s11 = .int .i64 j ∧ (∀ (j' : Nat) (y : Cl), k < j' → j' < j → cs[j']? = some y → y.who ≠ x.who) ∧ MidW w w6 A C L (.slice sa k cs0) k r ⟨i, x.kind, x.arg, beg, f0, x.code, x.v⟩ (u0, u1, u2))
              case atStart => exact ⟨k + 1, Nat.le_refl _, hn₁, by go_num, fun j' y h1 h2 => absurd h2 (by omega), H5.out⟩
              case round =>
                clear H5
                obtain ⟨j, hj1, hj2, rfl, hno, hmid⟩ := hrel
                by_cases hjn : j < n
                · have i5 : (j : Int) < (n : Int) := by omega
                  obtain ⟨ba', off', e', hb', hc⟩ := (HS.out.1.more hmid.keep).ex (by omega)
                  injection e' with e'
                  injection e' with e1 e2
                  subst e1 e2
                  obtain ⟨y, hy⟩ : ∃ y, cs[j]? = some y := ⟨cs[j]'(by have := HS.out.2.2.1; omega), by simp⟩
                  have v0 := (hc j y hy).1
                  have x0 := (hc k x HX.out.2.1).1
                  have HMD : Hid _ := hmid
                  by_cases hyw : y.who = x.who
                  · have q1 : (y.who == x.who) = true := by simpa using hyw
                    have HF : Hid (∀ (j' : Nat) (y : Cl), k < j' → cs[j']? = some y → y.who = x.who → j ≤ j') := fun j' y' h1 h2 h3 => by
                      rcases Nat.lt_or_ge j' j with e | e
                      · exact absurd h3 (hno j' y' h1 e h2)
                      · exact e
                    have z4 : wr.cell? ⟨C, 4, none⟩ = some (.int .i64 f0) := (blk_cell HMD.out.call 4).trans rfl
                    have f4 := blk_free HMD.out.call 4
                    have hj40 : j ≤ 40 := by omega
                    clear hc hy hno hmid hyw hb'
                    go_upto_region 18 with fail
                    go_quiet (fail)
                    go_wp2_with fail
                    go_meet
                    refine ⟨min f0 (100 * (j : Int) + 49), by omega, by omega, fun j' y' h1 h2 h3 => by have := HF.out j' y' h1 h2 h3; omega, ?_⟩
                    exact (HMD.out.more (keeps_drewN _)).put rfl
                  · have q1 : (y.who == x.who) = false := by simpa using hyw
                    have HF : Hid (∀ (j' : Nat) (y : Cl), k < j' → j' < j + 1 → cs[j']? = some y → y.who ≠ x.who) := fun j' y' h1 h2 h3 => by
                      by_cases e : j' = j
                      · subst e
                        rw [hy] at h3
                        injection h3 with h3
                        subst h3
                        exact hyw
                      · exact hno j' y' h1 (by omega) h3
                    clear hc hy hno hmid hyw hb'
                    go_upto_region 18 with fail
                    go_quiet (fail)
                    go_wp2_with fail
                    go_roundg (gk - 1)
                    case measure => omega
                    case rel => exact ⟨j + 1, by omega, by omega, by go_num, HF.out, HMD.out.more (keeps_drewN _)⟩
                · have hjn2 : j = n := by omega
                  subst hjn2
                  have i5 : ¬ (j : Int) < (j : Int) := by omega
                  have HMD : Hid _ := hmid
                  have HF : Hid (∀ (j' : Nat) (y : Cl), k < j' → cs[j']? = some y → y.who = x.who → f0 ≤ 100 * (j' : Int) + 49) := fun j' y' h1 h2 h3 => absurd h3 (hno j' y' h1 (by have := (List.getElem?_eq_some_iff.1 h2).1; have := HS.out.2.2.1; omega) h2)
                  clear hmid hno
                  go_wp2_with fail
                  go_meet
                  exact ⟨f0, hf1, hf2, HF.out, HMD.out⟩
            case rest =>
              obtain ⟨fin, hn1, hn2, hn3, h6⟩ := hcut
              have H6 : Hid _ := h6
              have HN3 : Hid (∀ (j : Nat) (y : Cl), k < j → cs[j]? = some y → y.who = x.who → fin ≤ 100 * (j : Int) + 49) := hn3
              clear h6 hn3 H5
              generalize wc = W6 at *
              have hws := HX.out.1.step HX.out.2.1 hk40 HS.out.2.2.2.1 hi HI.out hub hn1 hn2 HN3.out
              rw [HB.out] at hws
              obtain ⟨z0, z1, z2, z3, z4, z5, z6⟩ := clA_cells H6.out.call
              simp only at z0 z1 z2 z3 z4 z5 z6
              have l0 : W6.cell? ⟨A, i, none⟩ = some (.int .i64 (L i)) := (blk_cell H6.out.last i).trans (lastA_at L hi)
              have fl := blk_free H6.out.last i
              have h7 := H6.out.setL (by have := HS.out.2.2.2.2; omega) HX.out.2.2 hi (fin + 1)
              obtain ⟨W7, hW7⟩ : ∃ W7, W7 = W6.setCell ⟨A, i, none⟩ (.int .i64 (fin + 1)) := ⟨_, rfl⟩
              rw [← hW7] at h7
              have H7 : Hid _ := h7
              have HWS : Hid _ := hws
              clear h7 hws H6
              go_upto_region 21 with fail
              rw [← hW7]
              clear hW7 z0 z1 z2 z3 z4 z5 z6 l0 fl
              obtain ⟨z0, z1, z2, z3, z4, z5, z6⟩ := clA_cells H7.out.call
              simp only at z0 z1 z2 z3 z4 z5 z6
              obtain ⟨g, cp, w8, hr, ho, hk8, hm8⟩ := call_more w.heap.size (.slice sa k cs0) r ⟨i, x.kind, x.arg, beg, fin, x.code, x.v⟩ k 27 W7 HX.out.1.len.symm H7.out.row H7.out.keep.size (by omega)
              have HE : Hid (w8.ownsRow w.heap.size 49 7 (.slice (some ⟨g, 0, none⟩) (k + 1) cp) (k + 1) (clVals (r ++ [⟨i, x.kind, x.arg, beg, fin, x.code, x.v⟩])) ∧ w8.heap[A]? = some (.cells (lastA (fun a => if a = i then fin + 1 else L a)) 61 (0, 0)) ∧ Keeps None w w8) := ⟨ho, blk_kept H7.out.last hk8 (fun e => HX.out.2.2 A e rfl), H7.out.keep.trans hk8 (fun i e hi => by have := row_low H7.out.row e; omega)⟩
              simp only at hr
              clear ho hk8 hm8
              go_wp2_with (at_builtin; refine wpList_append_run rfl (.tmp 91) (.tmp 93) 27 27 rfl rfl rfl hr ?_)
              go_roundg (gk - 1)
              case measure => omega
              case rel => exact ⟨k + 1, _, _, by omega, by go_num, HWS.out, HE.out⟩
    · have hkn2 : k = n := by omega
      subst hkn2
      have i1 : ¬ (k : Int) < (k : Int) := by omega
      have HF : Hid (WidePost w cs (.returned (.slice sa k cs0)) wr) := by
        refine ⟨_, L, r, rfl, by rw [← HS.out.2.2.1]; exact hws, by rw [hws.len]; exact hrow, hkp⟩
      clear hws hrow hbA hkp
      go_wp2_with fail
      go_ret
      exact HF.out
end Go.Proofs.Ytheginjjncnheaa
