import Derived.Test.YtklepknkdkponaaDoorPgRev
import Derived.Test.YtklepknkdkponaaDoorPgSound
/-! Trail of a sound function. -/
namespace Go.Proofs.YtklepknkdkponaaDoor
set_option linter.unusedVariables false
set_option maxRecDepth 20000
open Go.RowKit Go.HeapKit

/-- What Trail's loop holds. -/
structure Back (f : Fn) (slot : Int) (w wr : World) (g n : Nat) (fr W A : List Pt) (p : Pt) (r : List Pt) (s12 : Value) (H : Nat) : Prop where
  from_ : IsFrom wr g n fr
  here : wr.heap[H]? = some (.cells #[.int .i64 p.1, .int .i64 p.2] 79 (0, 0))
  row : wr.ownsRow w.heap.size 3 1 s12 (A.length + 1) (((A ++ [p]).map (·.1)).map (Value.int .i64))
  split : W = A ++ p :: r
  way : Way f slot fr p (p :: r)
  keep : Keeps None w wr
  low : w.heap.size ≤ H
  glow : w.heap.size ≤ g
/-- What Trail answers. -/
def TrailE (f : Fn) (s t q : Nat) (w' : World) (e : Ending) : Prop :=
  (metV (searchV f s (0, 0)) (t, q) = false ∧ e = .returned (.tuple #[.slice none 0 0, .int .i64 59])) ∨
  (metV (searchV f s (0, 0)) (t, q) = true ∧ ∃ g cap Q, e = .returned (.tuple #[.slice (some ⟨g, 0, none⟩) Q.length cap, .int .i64 0]) ∧ Fore f s (t, q) Q ∧ IsP w' g Q.length (fun k => (Q.getD k (0, 0)).1))
theorem own_isP {w : World} {base g n cap : Nat} {L : List Int} (h : w.ownsRow base 3 1 (.slice (some ⟨g, 0, none⟩) n cap) n (L.map (Value.int .i64))) : base ≤ g ∧ IsP w g n (fun k => L.getD k 0) := by
  have hl : L.length = n := by simpa using h.1
  rcases h.2 with ⟨h0, _⟩ | ⟨g', cap', cur, e, hb, hg, hn, hm, hc, ht⟩
  · cases h0
  · injection e with e1 e2 e3
    injection e1 with e1
    injection e1 with e1
    subst e1
    refine ⟨by omega, cur, hg, fun k hk => ?_⟩
    have hk' : k < L.length := by omega
    have h1 : (List.take (n * 1) cur.toList)[k]? = some (Value.int .i64 (L[k])) := by rw [ht]; simp [hk']
    rw [List.getElem?_take, if_pos (by omega)] at h1
    simpa [List.getD_eq_getElem?_getD, List.getElem?_eq_getElem hk'] using h1
set_option maxRecDepth 20000 in
set_option maxHeartbeats 2000000 in
theorem trail_sound (f : Fn) (ca : Option Addr) (cc t s q : Nat) (w : World) (hT : Tabs w) (hC : SeenI w ca f.code.length f.code) (hok : ∀ i ∈ f.code, i.Ok) (hsh : shapeV f = true) (hcT : codeFault true [] f = none) (ht : t < f.code.length) (hs : (s : Int) < f.slots) (hq : q = 1 ∨ q = 2 ∨ q = 4) :
    Calls Tryd.prog 24 #[fnV f ca cc, .int .i64 t, .int .i64 s, .int .i64 q] w fun e w' => Keeps None w w' ∧ TrailE f s t q w' e := by
  have hG := good_of hsh hcT
  obtain ⟨n, hn⟩ : ∃ n, n = f.code.length := ⟨_, rfl⟩
  have hal := Keeps.alloc None w (.cells #[.int .i64 f.params, .int .i64 f.regs, .int .i64 f.slots, .slice ca n cc] 36)
  have b1 := heap_alloc_new w (.cells #[.int .i64 f.params, .int .i64 f.regs, .int .i64 f.slots, .slice ca n cc] 36)
  have hso := sound_true f ca cc _ (hT.more hal) (hC.more hal) hok hsh hcT
  have hse := fun wx (hk : Keeps None w wx) => search_any f ca cc s ((t : Int), (q : Int)) wx (hT.more hk) (hC.more hk) hG
  obtain ⟨wa, hwa⟩ : ∃ wa, wa = w.alloc (.cells #[.int .i64 f.params, .int .i64 f.regs, .int .i64 f.slots, .slice ca n cc] 36) := ⟨_, rfl⟩
  obtain ⟨B, hB⟩ : ∃ B, B = w.heap.size := ⟨_, rfl⟩
  unfold fnV at hso hse ⊢
  rw [← hn] at hso hse ⊢
  rw [← hwa] at hal b1 hso
  rw [← hB] at b1
  have e1 : belowV (t : Int) (n : Int) = true := (belowV_iff _ _).2 ⟨by omega, by omega⟩
  have e2 : belowV (s : Int) f.slots = true := (belowV_iff _ _).2 ⟨by omega, by omega⟩
  have HA : Hid (wa.heap[B]? = some (.cells #[.int .i64 f.params, .int .i64 f.regs, .int .i64 f.slots, .slice ca n cc] 36 (0, 0)) ∧ Keeps None w wa ∧ (∀ wx, Keeps None w wx → _) ∧ Good f ∧ n = f.code.length ∧ Tabs w ∧ (q = 1 ∨ q = 2 ∨ q = 4) ∧ B = w.heap.size) := ⟨b1, hal, hse, hG, hn, hT, hq, hB⟩
  have d0 := (cell_of_heap b1 0).trans rfl
  have d1 := (cell_of_heap b1 1).trans rfl
  have d2 := (cell_of_heap b1 2).trans rfl
  have d3 := (cell_of_heap b1 3).trans rfl
  have htn : t < n := by omega
  have hn2 : n ≤ 512 := by have := hG.n2; omega
  clear hal b1 hse hT hC hok hsh hcT hn hs ht hG hq
  go_enter Tryd.func24, Tryd.ntmps24
  go_upto_region 1 with fail
  rw [← hwa, ← hB]
  clear hwa hB
  go_upto_region 3 with (first
    | (go_at_call 50; refine hso.mono ?_; rintro _ w2 ⟨rfl, hk2⟩; have d0' := hk2.cell d0 (fun f => f); have d1' := hk2.cell d1 (fun f => f); have d2' := hk2.cell d2 (fun f => f); have d3' := hk2.cell d3 (fun f => f))
    | (go_at_call 54; refine (below_any _ _ _).mono ?_; rintro _ w2' ⟨rfl, hw2⟩; have h2 := hw2.symm; subst h2))
  have HK : Hid (Keeps None w w2) := HA.out.2.1.trans hk2 (fun _ f _ => f)
  have HKb : Hid (w2.heap[B]? = some (.cells #[.int .i64 f.params, .int .i64 f.regs, .int .i64 f.slots, .slice ca n cc] 36 (0, 0))) := blk_kept HA.out.1 hk2 (fun f => f)
  clear hk2 d0 d1 d2 d3 hso e1 e2
  go_cut [41] (fun s41 wx => s41 = .bool false ∧ wx = w2)
  case first =>
    rcases HA.out.2.2.2.2.2.2.1 with rfl | rfl | rfl
    all_goals (go_wp2_with fail; go_meet)
    all_goals exact ⟨rfl, rfl⟩
  case rest =>
    obtain ⟨rfl, hwx⟩ := hcut
    subst hwx
    obtain ⟨G, hGz⟩ : ∃ G, G = wc.heap.size := ⟨_, rfl⟩
    have HG0 : Hid (G = wc.heap.size ∧ wc.heap[B]? = some (.cells #[.int .i64 f.params, .int .i64 f.regs, .int .i64 f.slots, .slice ca n cc] 36 (0, 0)) ∧ Keeps None w wc) := ⟨hGz, HKb.out, HK.out⟩
    clear hGz HKb
    go_upto_region 5 with fail
    go_cut [10] (fun s10 wx => s10 = .pointer (some ⟨G, 0, none⟩) ∧ wx.heap[G]? = some (.cells #[.int .i64 t, .int .i64 q] 79 (0, 0)) ∧ Keeps None wc wx)
    case first =>
      go_wp2_with fail
      go_meet
      rw [HG0.out.1]
      exact ⟨rfl, heap_alloc_new _ _, Keeps.alloc None _ _⟩
    case rest =>
      rename_i wp _ _ _
      obtain ⟨rfl, hg, hk3⟩ := hcut
      have hkw := HG0.out.2.2.trans hk3 (fun _ f _ => f)
      have hb := blk_kept HG0.out.2.1 hk3 (fun f => f)
      have hse := HA.out.2.2.1 _ hkw
      have c0 := (cell_of_heap hb 0).trans rfl
      have c1 := (cell_of_heap hb 1).trans rfl
      have c2 := (cell_of_heap hb 2).trans rfl
      have c3 := (cell_of_heap hb 3).trans rfl
      have g0 := (cell_of_heap hg 0).trans rfl
      have g1 := (cell_of_heap hg 1).trans rfl
      have HH : Hid (wc.heap[G]? = some (.cells #[.int .i64 t, .int .i64 q] 79 (0, 0)) ∧ Keeps None w wc) := ⟨hg, hkw⟩
      clear hb hg hk3 hkw d0' d1' d2' d3'
      go_upto_region 7 with (go_at_call 55; refine hse.mono ?_; rintro _ w3 ⟨g, rfl, hF, hk4, hgl⟩)
      have hkw := HH.out.2.trans hk4 (fun _ f _ => f)
      have hG := HA.out.2.2.2.1
      have hn := HA.out.2.2.2.2.1
      have hq := HA.out.2.2.2.2.2.2.1
      have hP : PtOk f.code.length ((t : Int), (q : Int)) := ⟨by simp, by simp; omega, by simp; omega⟩
      have hme := met_any g n _ t q w3 hF htn (by omega)
      have hsg := search_goal hG s ((t : Int), (q : Int)) hP
      have hgb := blk_kept HH.out.1 hk4 (fun f => f)
      have glow : w.heap.size ≤ g := Nat.le_trans HH.out.2.size hgl
      have g0' := (cell_of_heap hgb 0).trans rfl
      have g1' := (cell_of_heap hgb 1).trans rfl
      cases hm : metV (searchV f s ((t : Int), (q : Int))) ((t : Int), (q : Int)) with
      | false =>
        rw [hm] at hme hsg
        have HE : Hid (metV (searchV f s (0, 0)) (t, q) = false ∧ Keeps None w w3) := ⟨hsg.symm, hkw⟩
        clear hsg hm hkw hG hn hq hP hF hk4 hgl hgb glow c0 c1 c2 c3 g0 g1 hse
        go_wp2_with (go_at_call 56; refine hme.mono ?_; rintro e w5 ⟨rfl, hk5⟩)
        go_ret2
        exact ⟨HE.out.2.trans hk5 (fun _ f _ => f), .inl ⟨HE.out.1, rfl⟩⟩
      | true =>
        obtain ⟨W, hW, hW3⟩ := search_way hG s ((t : Int), (q : Int)) _ hP hm
        rw [hm] at hme hsg
        obtain ⟨R0, hR0⟩ := hW.ne
        have HE : Hid (metV (searchV f s (0, 0)) (t, q) = true ∧ Keeps None w w3 ∧ IsFrom w3 g n (searchV f s ((t : Int), (q : Int))) ∧ Way f s (searchV f s ((t : Int), (q : Int))) ((t : Int), (q : Int)) W ∧ W.length ≤ 3 * f.code.length ∧ W = ((t : Int), (q : Int)) :: R0 ∧ w.heap.size ≤ g ∧ w3.heap[G]? = some (.cells #[.int .i64 t, .int .i64 q] 79 (0, 0))) := ⟨hsg.symm, hkw, hF, hW, hW3, hR0, glow, hgb⟩
        clear hsg hm hkw hG hn hq hP hF hk4 hgl hgb glow c0 c1 c2 c3 g0 g1 hse hW hW3 hR0
        go_upto_region 9 with (go_at_call 56; refine hme.mono ?_; rintro e w5 ⟨rfl, hk5⟩)
        replace g0' := hk5.cell g0' (fun f => f)
        replace g1' := hk5.cell g1' (fun f => f)
        obtain ⟨P0, hP0⟩ : ∃ P0, P0 = w5.heap.size := ⟨_, rfl⟩
        have H5 : Hid (P0 = w5.heap.size ∧ Keeps None w3 w5) := ⟨hP0, hk5⟩
        clear hP0 hk5 hme
        go_cut [12] (fun s12 wx => s12 = .slice (some ⟨P0, 0, none⟩) 1 1 ∧ wx.heap[P0]? = some (.cells #[.int .i64 t] 3 (0, 0)) ∧ Keeps None w5 wx)
        case first =>
          go_wp2_with fail
          go_meet
          rw [H5.out.1]
          exact ⟨rfl, heap_alloc_new _ _, Keeps.alloc None _ _⟩
        case rest =>
          obtain ⟨rfl, hp0, hk6⟩ := hcut
          have hk36 := H5.out.2.trans hk6 (fun _ f _ => f)
          have hkw := HE.out.2.1.trans hk36 (fun _ f _ => f)
          replace g0' := hk6.cell g0' (fun f => f)
          replace g1' := hk6.cell g1' (fun f => f)
          have hlow : w.heap.size ≤ P0 := by have := HE.out.2.1.size; have := H5.out.2.size; have := H5.out.1; omega
          obtain ⟨FR, hFR⟩ : ∃ FR, FR = searchV f s ((t : Int), (q : Int)) := ⟨_, rfl⟩
          have hF := HE.out.2.2.1.kept hk36 (fun f => f)
          have hWy := HE.out.2.2.2.1
          rw [← hFR] at hF hWy
          have HL : Hid (Back f s w (wc.alloc (.cells #[.int .i64 t, .int .i64 q] 79)) g n FR W [] ((t : Int), (q : Int)) R0 (.slice (some ⟨P0, 0, none⟩) 1 1) wc.heap.size ∧ Way f s FR ((t : Int), (q : Int)) W) := by
            have hal := Keeps.alloc None wc (.cells #[.int .i64 t, .int .i64 q] 79)
            refine ⟨⟨hF.kept hal (fun f => f), heap_alloc_new _ _, ⟨by simp, .inr ⟨P0, 1, #[.int .i64 t], rfl, hlow, blk_kept hp0 hal (fun f => f), by simp, by unfold maxLen; omega, by simp, by simp⟩⟩, HE.out.2.2.2.2.2.1, ?_, hkw.trans hal (fun _ f _ => f), hkw.size, HE.out.2.2.2.2.2.2.1⟩, hWy⟩
            rw [← HE.out.2.2.2.2.2.1]
            exact hWy
          clear hp0 hk6 hk36 hkw hlow hF hWy hFR
          go_wp2_with fail
          go_loopw [12, 13] (fun s12 s13 wr => ∃ A p r H, s13 = .pointer (some ⟨H, 0, none⟩) ∧ Back f s w wr g n FR W A p r s12 H) (fun s12 _ _ => W.length - lenS s12)
          case atStart => exact ⟨[], _, R0, _, rfl, HL.out.1⟩
          case round =>
            obtain ⟨A, p, r, H, rfl, hB⟩ := hrel
            obtain ⟨gp, cap, rfl⟩ : ∃ gp cap, u12 = .slice (some ⟨gp, 0, none⟩) (A.length + 1) cap := by
              rcases hB.row.2 with ⟨_, h0⟩ | ⟨b, cap, cur, rfl, _⟩
              · omega
              · exact ⟨b, cap, rfl⟩
            obtain ⟨s0, s1⟩ := (HA.out.2.2.2.2.2.1.more hB.keep).start0
            have hn := HA.out.2.2.2.2.1
            have hWlen : W.length = A.length + 1 + r.length := by rw [hB.split]; simp; omega
            have hW3 := HE.out.2.2.2.2.1
            by_cases hp : p = (0, 1)
            · subst hp
              have hr0 : r = [] := by
                cases hB.way with
                | start => rfl
                | more h _ _ _ _ => exact absurd rfl h
              subst hr0
              have hN : A.length + 1 = W.length := by simpa using hWlen.symm
              obtain ⟨hgpl, hisp⟩ := own_isP hB.row
              have hrv := rev_any gp (A.length + 1) cap _ wr hisp (by omega) (by omega)
              have x0 := (cell_of_heap hB.here 0).trans rfl
              have x1 := (cell_of_heap hB.here 1).trans rfl
              have HZ : Hid (Back f s w wr g n FR W A (0, 1) [] (.slice (some ⟨gp, 0, none⟩) (A.length + 1) cap) H ∧ A.length + 1 = W.length ∧ w.heap.size ≤ gp) := ⟨hB, hN, hgpl⟩
              clear hB hisp hN hgpl hWlen hn hW3
              go_wp2_with (go_at_call 57; refine hrv.mono ?_; rintro _ w8 ⟨rfl, hp8, hk8⟩)
              go_ret2
              refine ⟨HZ.out.1.keep.trans hk8 (fun i e hi => by have := HZ.out.2.2; omega), .inr ⟨HE.out.1, gp, cap, W.reverse, ?_, ?_, ?_⟩⟩
              · rw [List.length_reverse, ← HZ.out.2.1]
                rfl
              · exact HL.out.2.fore HA.out.2.2.2.1.n1 HE.out.2.2.2.2.1
              · rw [List.length_reverse, ← HZ.out.2.1]
                refine hp8.congr (fun k hk => ?_)
                have hWA := HZ.out.1.split
                have hlen := HZ.out.2.1
                have e1 : W.reverse.getD k (0, 0) = W.getD (A.length + 1 - 1 - k) (0, 0) := by
                  rw [List.getD_eq_getElem?_getD, List.getElem?_reverse (by omega), ← List.getD_eq_getElem?_getD, ← hlen]
                rw [e1, hWA, List.getD_eq_getElem?_getD, List.getD_eq_getElem?_getD, List.getElem?_map]
                cases (A ++ [((0 : Int), (1 : Int))])[A.length + 1 - 1 - k]? <;> rfl
            · obtain ⟨h, hok, hget, hst, hwy⟩ : ∃ h, PtOk f.code.length p ∧ FR.getD (ptIx p) (0, 0) = h ∧ Steps f s h p ∧ Way f s FR h r := by
                have hw := hB.way
                generalize hpr : p :: r = L at hw
                cases hw with
                | start => injection hpr with e _; exact absurd e hp
                | more _ ok hg hs hw => injection hpr with _ e; subst e; exact ⟨_, ok, hg, hs, hw⟩
              obtain ⟨r', hr'⟩ := hwy.ne
              obtain ⟨p1, p2⟩ := p
              obtain ⟨a, rfl⟩ := Int.eq_ofNat_of_zero_le (show 0 ≤ p1 from hok.a0)
              obtain ⟨b, rfl⟩ : ∃ b : Nat, p2 = b := ⟨p2.toNat, by have := hok.st; simp only at this; omega⟩
              have ha : a < n := by have := hok.a1; simp only at this; omega
              have hb5 : b < 5 := by have := hok.st; simp only at this; omega
              have hl5 : a * 5 + b < FR.length := by rw [hB.from_.len]; omega
              have hx : FR[a * 5 + b]? = some h := by
                rw [← hget]
                simp only [ptIx, Int.toNat_natCast]
                rw [List.getD_eq_getElem?_getD, List.getElem?_eq_getElem hl5]
                rfl
              obtain ⟨u0a, u0b⟩ := hB.from_.at hx
              rw [show (a * 5 + b) * 2 = a * 10 + b * 2 by omega] at u0a u0b
              have x0 := (cell_of_heap hB.here 0).trans rfl
              have x1 := (cell_of_heap hB.here 1).trans rfl
              have z0 := blk_free hB.here 0
              have z1 := blk_free hB.here 1
              have nHg : ¬ H = g := blk_ne hB.here hB.from_.blk (by decide)
              have i1 : (a : Int) < (n : Int) := by omega
              have i2 : (b : Int) < 5 := by omega
              have i3 : ¬ n = 0 := by omega
              obtain ⟨h1, h2⟩ := h
              have HZ : Hid (Back f s w wr g n FR W A ((a : Int), (b : Int)) r (.slice (some ⟨gp, 0, none⟩) (A.length + 1) cap) H ∧ r = (h1, h2) :: r' ∧ Way f s FR (h1, h2) r ∧ W.length = A.length + 1 + r.length ∧ W.length ≤ 1536) := ⟨hB, hr', hwy, hWlen, by omega⟩
              have HP : Hid (¬ ((a : Int), (b : Int)) = ((0 : Int), (1 : Int))) := hp
              clear hB hr' hwy hWlen hW3 hn hget hst hok hx hl5 hp
              have mixed : Tryd.prog.follows Departure.mixedOrders = true := by kernel_rfl
              simp only at x0 x1 u0a u0b
              go_upto_region 11 with fail
              go_cut [59] (fun s59 wx => s59 = .bool true ∧ wx = wr)
              case first =>
                by_cases ha0 : (a : Int) = 0
                · have hb0 : ¬ (b : Int) = 1 := fun e => HP.out (by rw [ha0, e])
                  go_wp2_with fail
                  go_meet
                  exact ⟨rfl, rfl⟩
                · go_wp2_with fail
                  go_meet
                  exact ⟨rfl, rfl⟩
              case rest =>
                obtain ⟨rfl, hwx⟩ := hcut
                subst hwx
                go_upto_region 12 with fail
                go_cut [13] (fun s13 wx => s13 = .pointer (some ⟨H, 0, none⟩) ∧ wx.heap[H]? = some (.cells #[.int .i64 h1, .int .i64 h2] 79 (0, 0)) ∧ Keeps (· = H) wc wx)
                case first =>
                  go_region_o
                  all_goals (go_wp2_with fail; go_meet)
                  all_goals
                    have q1 := blk_set (i := 1) (blk_set (i := 0) HZ.out.1.here (.int .i64 h1)) (.int .i64 h2)
                    refine ⟨rfl, ?_, (((Keeps.refl (· = H) _).andSet (x := ⟨H, 0, none⟩) (.inl rfl) _).andSet (x := ⟨H, 1, none⟩) (.inl rfl) _).andDrew⟩
                    simp at q1
                    exact q1
                case rest =>
                  rename_i wq _ _ _ _ _ _ _ _ _ _ _ _ _ _ _ _ _
                  obtain ⟨rfl, hh, hk9⟩ := hcut
                  have hB := HZ.out.1
                  have hrow := hk9.own hB.row (fun k e => by
                    obtain ⟨c, hc⟩ := own_block hB.row e
                    rintro rfl
                    exact blk_ne hc hB.here (by decide) rfl)
                  have hF := hB.from_.kept hk9 (fun e => blk_ne hB.here hB.from_.blk (by decide) e.symm)
                  have hkw := hB.keep.trans hk9 (fun i e hi => by have := hB.low; omega)
                  obtain ⟨g2, cp2, w2, hr2, ho2, hk2, hm2⟩ := int_more w.heap.size (.slice (some ⟨gp, 0, none⟩) (A.length + 1) cap) ((A ++ [((a : Int), (b : Int))]).map (·.1)) h1 (A.length + 1) 50 wc.heap.size (wc.alloc (.cells #[.int .i64 h1] 3)) (by simp) (hrow.alloc _) (by have := hkw.size; simp; omega) (by have := HZ.out.2.2.2.1; have := HZ.out.2.2.2.2; omega) (heap_alloc_new _ _)
                  have hal := Keeps.alloc None wc (.cells #[.int .i64 h1] 3)
                  have hk2' : Keeps (· = gp) wc w2 := (hal.mono (fun _ f _ => f.elim)).trans hk2 (fun i e _ => by simp [Value.ownBlock] at e; exact e.symm)
                  obtain ⟨cgp, hcgp⟩ := own_block hrow (g := gp) rfl
                  have hh2 := blk_kept hh hk2' (blk_ne hh hcgp (by decide))
                  have y0 := (cell_of_heap hh 0).trans rfl
                  have v0 := (cell_of_heap hh2 0).trans rfl
                  have v1 := (cell_of_heap hh2 1).trans rfl
                  have HN : Hid (Back f s w (w2.alloc (.cells #[.int .i64 h1, .int .i64 h2] 79)) g n FR W (A ++ [((a : Int), (b : Int))]) (h1, h2) r' (.slice (some ⟨g2, 0, none⟩) (A.length + 1 + 1) cp2) w2.heap.size) := by
                    have hal2 := Keeps.alloc None w2 (.cells #[.int .i64 h1, .int .i64 h2] 79)
                    have hgl : w.heap.size ≤ gp := (own_isP hrow).1
                    have hkw2 := hkw.trans hk2' (fun i e hi => by omega)
                    refine ⟨(hF.kept hk2' (fun e => blk_ne hF.blk hcgp (by decide) e)).kept hal2 (fun f => f), heap_alloc_new _ _, ?_, ?_, ?_, hkw2.trans hal2 (fun _ f _ => f), hkw2.size, hB.glow⟩
                    · have h3 := hal2.own ho2 (fun _ _ f => f)
                      simpa using h3
                    · rw [hB.split, HZ.out.2.1]
                      simp
                    · rw [← HZ.out.2.1]
                      exact HZ.out.2.2.1
                  have hl1 : ((A.length + 1 : Nat) : Int) = (A.length : Int) + 1 := by omega
                  clear hB hrow hF hkw ho2 hk2 hk2' hm2 hal hcgp hh hh2 hk9 x0 x1 u0a u0b z0 z1
                  go_wp2_with (at_builtin; refine wpList_append_run rfl (.tmp 68) (.tmp 71) 50 50 rfl rfl rfl hr2 ?_)
                  refine ⟨⟨A ++ [((a : Int), (b : Int))], (h1, h2), r', w2.heap.size, rfl, HN.out⟩, ?_⟩
                  have := HZ.out.2.2.2.1
                  have h9 : r.length = r'.length + 1 := by rw [HZ.out.2.1]; rfl
                  show W.length - (A.length + 1 + 1) < W.length - (A.length + 1)
                  omega
theorem trail_any (l : List Fn) (f : Fn) (ca : Option Addr) (cc t s q : Nat) (w : World) (hT : Tabs w) (hC : SeenI w ca f.code.length f.code) (hok : ∀ i ∈ f.code, i.Ok) (hsh : shapeV f = true) (hcf : codeFault false l f = none) (ht : t < f.code.length) (hs : (s : Int) < f.slots) (hq : q = 1 ∨ q = 2 ∨ q = 4) :
    Calls Tryd.prog 24 #[fnV f ca cc, .int .i64 t, .int .i64 s, .int .i64 q] w fun e w' => Keeps None w w' ∧ TrailE f s t q w' e := trail_sound f ca cc t s q w hT hC hok hsh (fault_alone hcf) ht hs hq
end Go.Proofs.YtklepknkdkponaaDoor
