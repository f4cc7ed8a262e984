import Derived.Test.YtahoodfdcpgikaaDoorPgTrailAny
import Derived.Test.YtahoodfdcpgikaaDoorPgBits
/-! The statement's 'leads'. -/
namespace Go.Proofs.YtahoodfdcpgikaaDoor
set_option linter.unusedVariables false
set_option maxRecDepth 20000
open Go.RowKit Go.HeapKit

set_option maxRecDepth 20000 in
set_option maxHeartbeats 4000000 in
theorem leads_any (a : Option Addr) (n c : Nat) (l : List Fn) (f : Fn) (ca : Option Addr) (cc gp cap s t q : Nat) (Q : List Pt) (w : World) (hS : SeenF w a n l) (hC : SeenI w ca f.code.length f.code) (hsh : shapeV f = true) (hcf : codeFault false l f = none) (hpar : ∀ g ∈ l, 0 ≤ g.params ∧ g.params ≤ 8) (hs : (s : Int) < f.slots)
    (hQ : Fore f s ((t : Int), (q : Int)) Q) (hP : IsP w gp Q.length (fun k => (Q.getD k (0, 0)).1)) :
    Calls Tryd.prog 9 #[.agg #[.slice a n c], fnV f ca cc, .slice (some ⟨gp, 0, none⟩) Q.length cap, .int .i64 t, .int .i64 s, .int .i64 q] w fun e w' => e = .returned (.bool true) ∧ Keeps None w w' := by
  obtain ⟨M, hM⟩ : ∃ M, Q.length = M + 1 := ⟨Q.length - 1, by have := hQ.n1; omega⟩
  obtain ⟨m, hm⟩ : ∃ m, m = f.code.length := ⟨_, rfl⟩
  have hG := good_of hsh hcf
  have hsh' : f.slots ≤ 8 ∧ 0 ≤ f.regs ∧ f.regs ≤ 16 := by
    simp only [shapeV, Bool.and_eq_true, decide_eq_true_eq] at hsh
    omega
  unfold fnV
  rw [hM, ← hm]
  rw [hM] at hP
  rw [← hm] at hC
  obtain ⟨B, hB0⟩ : ∃ B, B = w.heap.size := ⟨_, rfl⟩
  obtain ⟨b1, b2⟩ := two_boxes w #[.slice a n c] #[.int .i64 f.params, .int .i64 f.regs, .int .i64 f.slots, .slice ca m cc] 24 32
  have hk := keeps2 w (.cells #[.slice a n c] 24) (.cells #[.int .i64 f.params, .int .i64 f.regs, .int .i64 f.slots, .slice ca m cc] 32)
  have hsz : ((w.alloc (.cells #[.slice a n c] 24)).alloc (.cells #[.int .i64 f.params, .int .i64 f.regs, .int .i64 f.slots, .slice ca m cc] 32)).heap.size = B + 2 := by simp [hB0]
  rw [← hB0] at b1 b2
  obtain ⟨wa, hwa⟩ : ∃ wa, wa = (w.alloc (.cells #[.slice a n c] 24)).alloc (.cells #[.int .i64 f.params, .int .i64 f.regs, .int .i64 f.slots, .slice ca m cc] 32) := ⟨_, rfl⟩
  rw [← hwa] at b1 b2 hk hsz
  have p0 := (hP.kept hk (fun f => f)).at (k := 0) (by omega)
  have pM := (hP.kept hk (fun f => f)).at (k := M) (by omega)
  have e0 : (Q.getD 0 (0, 0)).1 = 0 := by rw [List.getD_eq_getElem?_getD, hQ.first]; rfl
  have eM : (Q.getD M (0, 0)).1 = t := by
    have := hQ.last
    rw [show Q.length - 1 = M by omega] at this
    rw [List.getD_eq_getElem?_getD, this]
    rfl
  simp only [e0] at p0
  simp only [eM] at pM
  have d3 := (cell_of_heap b2 3).trans rfl
  have hm2 : m ≤ 512 := by have := hG.n2; omega
  have hM3 : M + 1 ≤ 3 * m := by have := hQ.n3; omega
  have j1 : ¬ (3 * (m : Int) < (M : Int) + 1) := by omega
  have HA : Hid (SeenF w a n l ∧ SeenI w ca m f.code ∧ Good f ∧ m = f.code.length ∧ codeFault false l f = none ∧ (∀ g ∈ l, 0 ≤ g.params ∧ g.params ≤ 8) ∧ (s : Int) < f.slots ∧ f.slots ≤ 8 ∧ 0 ≤ f.regs ∧ f.regs ≤ 16 ∧ Fore f s ((t : Int), (q : Int)) Q ∧ Q.length = M + 1 ∧ IsP w gp (M + 1) (fun k => (Q.getD k (0, 0)).1) ∧ B = w.heap.size ∧
    wa.heap[B]? = some (.cells #[.slice a n c] 24 (0, 0)) ∧ wa.heap[B + 1]? = some (.cells #[.int .i64 f.params, .int .i64 f.regs, .int .i64 f.slots, .slice ca m cc] 32 (0, 0)) ∧ Keeps None w wa ∧ wa.heap.size = B + 2) := ⟨hS, hC, hG, hm, hcf, hpar, hs, hsh'.1, hsh'.2.1, hsh'.2.2, hQ, hM, hP, hB0, b1, b2, hk, hsz⟩
  clear hS hC hG hm hcf hpar hs hsh' hQ hM hP b1 b2 hk hsz hsh e0 eM
  go_enter Tryd.func9, Tryd.ntmps9
  go_upto_region 1 with fail
  rw [← hwa, ← hB0]
  clear hwa hB0
  go_cut [43] (fun s43 wx => s43 = .bool false ∧ wx = wa)
  case first =>
    go_wp2_with fail
    go_meet
    exact ⟨rfl, rfl⟩
  case rest =>
    obtain ⟨rfl, hwx⟩ := hcut
    subst hwx
    go_upto_region 4 with fail
    obtain ⟨X, hX⟩ : ∃ X, X = wc.heap.size := ⟨_, rfl⟩
    obtain ⟨w6, hw6⟩ : ∃ w6, w6 = wc.alloc (.cells #[.int .i64 0, .int .i64 0, .int .i64 0, .int .i64 0, .int .i64 0, .int .i64 0, .int .i64 0, .int .i64 0, .int .i64 0, .bool false] 70) := ⟨_, rfl⟩
    have hal := Keeps.alloc None wc (.cells #[.int .i64 0, .int .i64 0, .int .i64 0, .int .i64 0, .int .i64 0, .int .i64 0, .int .i64 0, .int .i64 0, .int .i64 0, .bool false] 70)
    have b6 := heap_alloc_new wc (.cells #[.int .i64 0, .int .i64 0, .int .i64 0, .int .i64 0, .int .i64 0, .int .i64 0, .int .i64 0, .int .i64 0, .int .i64 0, .bool false] 70)
    rw [← hw6] at hal b6
    rw [← hX] at b6
    rw [← hw6, ← hX]
    obtain ⟨hS, hC, hG, hm, hcf, hpar, hs, hs8, hr0, hr1, hQ, hM, hP, hBw, hb1, hb2, hkw, hwz⟩ := HA.out
    have H6 : Hid (IsWk w6 X 0 (List.replicate 8 0) false ∧ w6.heap[B + 1]? = some (.cells #[.int .i64 f.params, .int .i64 f.regs, .int .i64 f.slots, .slice ca m cc] 32 (0, 0)) ∧ w6.heap[B]? = some (.cells #[.slice a n c] 24 (0, 0)) ∧ Keeps None w w6 ∧ X = B + 2) := ⟨⟨b6, by simp⟩, blk_kept hb2 hal (fun f => f), blk_kept hb1 hal (fun f => f), hkw.trans hal (fun _ f _ => f), hX.trans hwz⟩
    clear hS hC hG hm hcf hpar hs hs8 hr0 hr1 hQ hM hP hBw hb1 hb2 hkw hwz hX hw6 hal b6 p0 pM d3 j1
    go_wp2_with fail
    go_loopw [14] (fun s14 wr => ∃ (k : Nat) (p : Pt) (sl : List Int), k ≤ M ∧ s14 = .int .i64 k ∧ Q[k]? = some p ∧ IsWk wr X p.1 sl false ∧ AlongP f s p sl ∧ wr.heap[B + 1]? = some (.cells #[.int .i64 f.params, .int .i64 f.regs, .int .i64 f.slots, .slice ca m cc] 32 (0, 0)) ∧ wr.heap[B]? = some (.cells #[.slice a n c] 24 (0, 0)) ∧ Keeps None w wr) (fun i _ => M - (intOf i).toNat)
    case atStart => exact ⟨0, (0, 1), _, Nat.zero_le _, rfl, HA.out.2.2.2.2.2.2.2.2.2.2.1.first, H6.out.1, alongP_start f s, H6.out.2.1, H6.out.2.2.1, H6.out.2.2.2.1⟩
    case round =>
      obtain ⟨k, p, sl, hkM, rfl, hQk, hwk, hal, hfb, hb, hkp⟩ := hrel
      obtain ⟨hS, hC, hG, hm, hcf, hpar, hs, hs8, hr0, hr1, hQ, hM, hP, hBw, -, -, -, -⟩ := HA.out
      have hok := hQ.ok p (List.mem_of_getElem? hQk)
      obtain ⟨p1, p2⟩ := p
      obtain ⟨u, rfl⟩ := Int.eq_ofNat_of_zero_le (show 0 ≤ p1 from hok.a0)
      have hum : u < m := by have := hok.a1; simp only at this; omega
      simp only at hwk
      have x0 := hwk.c0
      have x9 := hwk.c9
      by_cases hkl : k < M
      · have i1 : (k : Int) + 1 < (M : Int) + 1 := by omega
        obtain ⟨bI, oI, x, rfl, hx, hatI⟩ := (hC.more hkp).at hum
        obtain ⟨y0, y1, y2, y3, y4⟩ := hatI
        have B0 := (cell_of_heap hb 0).trans rfl
        have F0 := (cell_of_heap hfb 0).trans rfl
        have F1 := (cell_of_heap hfb 1).trans rfl
        have F2 := (cell_of_heap hfb 2).trans rfl
        have F3 := (cell_of_heap hfb 3).trans rfl
        have hfx := (code_parts hcf).1 u x hx
        have hlf := lawfits_any a n c l f (some ⟨bI, oI, none⟩) cc x wr.drew ((hS.more hkp).more (Keeps.drew None _)) ⟨hr0, hr1⟩ hpar hfx
        unfold fnV insV at hlf
        rw [← hm] at hlf
        obtain ⟨nx, hnx⟩ : ∃ nx, Q[k + 1]? = some nx := ⟨Q[k + 1]'(by omega), by simp⟩
        have hst := hQ.step k _ _ hQk hnx
        have hpk := hP.at (k := k + 1) (by omega)
        have i2 : (u : Int) < (m : Int) := by omega
        have i3 : ¬ ((u : Int) < 0) := by omega
        have i4 : ¬ m = 0 := by omega
        have i5 : ¬ ((m : Int) ≤ (u : Int)) := by omega
        have hen : (Q.getD (k + 1) (0, 0)).1 = nx.1 := by rw [List.getD_eq_getElem?_getD, hnx]; rfl
        simp only [hen] at hpk
        have HR : Hid (Q[k]? = some ((u : Int), p2) ∧ IsWk wr X u sl false ∧ AlongP f s ((u : Int), p2) sl ∧ wr.heap[B + 1]? = some (.cells #[.int .i64 f.params, .int .i64 f.regs, .int .i64 f.slots, .slice (some ⟨bI, oI, none⟩) m cc] 32 (0, 0)) ∧ wr.heap[B]? = some (.cells #[.slice a n c] 24 (0, 0)) ∧ Keeps None w wr ∧ Q[k + 1]? = some nx ∧ Steps f s ((u : Int), p2) nx ∧ f.code[u]? = some x ∧ fitsV false l f x = true ∧ w.cell? ⟨gp, k + 1, none⟩ = some (.int .i64 nx.1)) := ⟨hQk, hwk, hal, hfb, hb, hkp, hnx, hst, hx, hfx, hpk⟩
        clear hQk hwk hal hfb hb hkp hnx hst hx hfx hpk hen hS hC hG hm hcf hpar hs hs8 hr0 hr1 hQ hM hP hBw hok
        go_upto_region 7 with fail
        go_cut [87] (fun s87 wx => s87 = .bool false ∧ Keeps None wr wx)
        case first =>
          go_region_held3 (fun w' => w'.cell? ⟨X, 0, none⟩ = some (.int .i64 u) ∧ w'.cell? ⟨X, 9, none⟩ = some (.bool false) ∧ w'.cell? ⟨B, 0, none⟩ = some (.slice a n c) ∧ w'.cell? ⟨B + 1, 0, none⟩ = some (.int .i64 f.params) ∧ w'.cell? ⟨B + 1, 1, none⟩ = some (.int .i64 f.regs) ∧ w'.cell? ⟨B + 1, 2, none⟩ = some (.int .i64 f.slots) ∧ w'.cell? ⟨B + 1, 3, none⟩ = some (.slice (some ⟨bI, oI, none⟩) m cc) ∧ w'.cell? ⟨bI, oI + u * 5, none⟩ = some (.int .i64 x.kind) ∧ w'.cell? ⟨bI, oI + u * 5 + 1, none⟩ = some (.int .i64 x.a) ∧ w'.cell? ⟨bI, oI + u * 5 + 2, none⟩ = some (.int .i64 x.b) ∧ w'.cell? ⟨bI, oI + u * 5 + 3, none⟩ = some (.int .i64 x.c) ∧ w'.cell? ⟨bI, oI + u * 5 + 4, none⟩ = some (.int .i64 x.k)) (first | with_reducible exact hs2 | go_keep) (first
            | (go_at_call 26; refine hlf.mono ?_; rintro _ w9 ⟨rfl, hk9⟩; have hs2 := (⟨hk9.cell x0 (fun f => f), hk9.cell x9 (fun f => f), hk9.cell B0 (fun f => f), hk9.cell F0 (fun f => f), hk9.cell F1 (fun f => f), hk9.cell F2 (fun f => f), hk9.cell F3 (fun f => f), hk9.cell y0 (fun f => f), hk9.cell y1 (fun f => f), hk9.cell y2 (fun f => f), hk9.cell y3 (fun f => f), hk9.cell y4 (fun f => f)⟩ : w9.cell? ⟨X, 0, none⟩ = some (.int .i64 u) ∧ w9.cell? ⟨X, 9, none⟩ = some (.bool false) ∧ w9.cell? ⟨B, 0, none⟩ = some (.slice a n c) ∧ w9.cell? ⟨B + 1, 0, none⟩ = some (.int .i64 f.params) ∧ w9.cell? ⟨B + 1, 1, none⟩ = some (.int .i64 f.regs) ∧ w9.cell? ⟨B + 1, 2, none⟩ = some (.int .i64 f.slots) ∧ w9.cell? ⟨B + 1, 3, none⟩ = some (.slice (some ⟨bI, oI, none⟩) m cc) ∧ w9.cell? ⟨bI, oI + u * 5, none⟩ = some (.int .i64 x.kind) ∧ w9.cell? ⟨bI, oI + u * 5 + 1, none⟩ = some (.int .i64 x.a) ∧ w9.cell? ⟨bI, oI + u * 5 + 2, none⟩ = some (.int .i64 x.b) ∧ w9.cell? ⟨bI, oI + u * 5 + 3, none⟩ = some (.int .i64 x.c) ∧ w9.cell? ⟨bI, oI + u * 5 + 4, none⟩ = some (.int .i64 x.k))))
          all_goals (go_wp2_with fail; go_meet)
          all_goals exact ⟨rfl, (Keeps.drew None wr).trans hk9 (fun _ f _ => f)⟩
        case rest =>
          obtain ⟨rfl, hk9⟩ := hcut
          have hkw := HR.out.2.2.2.2.2.1.trans hk9 (fun _ f _ => f)
          have hpk := hkw.cell HR.out.2.2.2.2.2.2.2.2.2.2 (fun f => f)
          obtain ⟨v, r2⟩ := nx
          simp only at hpk
          have hfx := HR.out.2.2.2.2.2.2.2.2.2.1
          obtain ⟨jx, hjx, hvx, _⟩ := HR.out.2.2.2.2.2.2.2.1
          have hxx := HR.out.2.2.2.2.2.2.2.2.1
          simp only [Int.toNat_natCast] at hjx
          rw [hxx] at hjx
          obtain rfl := Option.some.inj hjx
          have hsa := step_at hfx hvx
          have h5 : x.kind = 5 → 0 ≤ x.a ∧ x.a < 8 := fun e => by
            have h1 := (fits_ways hfx).1
            rw [e] at h1
            have := (belowV_iff _ _).1 (show belowV x.a f.slots = true from h1)
            have := HA.out.2.2.2.2.2.2.2.1
            omega
          obtain ⟨tv, htv⟩ : ∃ tv, tv = decide (x.kind = 4 ∧ x.b = v) := ⟨_, rfl⟩
          have hwk := HR.out.2.1.kept hk9 (fun f => f)
          have hst := steps_any X u sl tv f (some ⟨bI, oI, none⟩) cc m x wc.drew (hwk.kept (Keeps.drew None _) (fun f => f)) HA.out.2.2.2.1 hm2 ((HA.out.2.1.more hkw).more (Keeps.drew None _)) hxx h5
          unfold fnV at hst
          rw [← HA.out.2.2.2.1] at hst
          rw [htv, hsa.2, show decide (x.kind = 9) = false by simpa using hsa.1] at hst
          rw [← htv] at hst
          have X0 := hwk.c0
          replace F0 := hk9.cell F0 (fun f => f)
          replace F1 := hk9.cell F1 (fun f => f)
          replace F2 := hk9.cell F2 (fun f => f)
          replace F3 := hk9.cell F3 (fun f => f)
          replace y0 := hk9.cell y0 (fun f => f)
          replace y2 := hk9.cell y2 (fun f => f)
          have i6 : (k : Int) + 1 < (M : Int) + 1 := by omega
          have HN : Hid (¬ B + 1 = X ∧ ¬ bI = X) := by
            have h62 := H6.out.2.2.2.2
            refine ⟨by omega, ?_⟩
            obtain ⟨bJ, oJ, xJ, hJ, _, hJat⟩ := HA.out.2.1.at hum
            injection hJ with hJ
            injection hJ with hJ1 _ _
            have := World.block_lt_of_cell? w _ hJat.1
            simp only at this
            have := HA.out.2.2.2.2.2.2.2.2.2.2.2.2.2.1
            omega
          have HT : Hid (IsWk wc X u sl false ∧ Keeps None w wc ∧ tv = decide (x.kind = 4 ∧ x.b = v) ∧ wc.heap[B + 1]? = some (.cells #[.int .i64 f.params, .int .i64 f.regs, .int .i64 f.slots, .slice (some ⟨bI, oI, none⟩) m cc] 32 (0, 0)) ∧ wc.heap[B]? = some (.cells #[.slice a n c] 24 (0, 0))) := ⟨hwk, hkw, htv, blk_kept HR.out.2.2.2.1 hk9 (fun f => f), blk_kept HR.out.2.2.2.2.1 hk9 (fun f => f)⟩
          clear hkw hwk hfx hvx hxx hsa h5 htv hk9 x0 x9 y1 y3 y4 hlf B0
          go_upto_region 10 with fail
          clear hpk
          go_cut [118] (fun _ wx => IsWk wx X v (stepSl x sl) false ∧ Keeps (· = X) wc wx)
          case first =>
            by_cases hk4 : x.kind = 4
            · have k4 : (x.kind == 4) = true := by simpa using hk4
              by_cases hbv : x.b = v
              · have kb : (x.b == v) = true := by simpa using hbv
                have htv : tv = true := by rw [HT.out.2.2.1]; simp [hk4, hbv]
                subst htv
                clear hk4 hbv
                refine wp_region_held_drew (S := (fun w' => w'.cell? ⟨B + 1, 0, none⟩ = some (.int .i64 f.params) ∧ w'.cell? ⟨B + 1, 1, none⟩ = some (.int .i64 f.regs) ∧ w'.cell? ⟨B + 1, 2, none⟩ = some (.int .i64 f.slots) ∧ w'.cell? ⟨B + 1, 3, none⟩ = some (.slice (some ⟨bI, oI, none⟩) m cc) ∧ w'.cell? ⟨bI, oI + u * 5, none⟩ = some (.int .i64 x.kind) ∧ w'.cell? ⟨bI, oI + u * 5 + 2, none⟩ = some (.int .i64 x.b))) (by kernel_rfl) ?_ (fun hHeld => ?_)
                · (try dsimp only); (first | with_reducible exact hs2 | go_keep)
                refine wpAnyH_take (i := 0) (oi := { dst := some 93, op := Op.move (Operand.tmp 13), type := 67, pos := "outright.go:174", after := #[], guard := none }) (v := ?_) rfl (by kernel_rfl) (by kernel_rfl) (by kernel_rfl) (fun _ _ _ h => h) (Or.inl ⟨by rfl, ?_⟩) (by assumption) ?_
                rotate_left
                · (intro wz hSw; (try dsimp only at hSw); go_simp; try with_reducible rfl)
                simp only [Act.put, List.setIfInBounds_toArray, List.set_cons_zero, List.set_cons_succ]
                refine wpAnyH_take (i := 1) (oi := { dst := some 94, op := Op.load 32 (Operand.tmp 7), type := 32, pos := "outright.go:174", after := #[], guard := none }) (v := ?_) rfl (by kernel_rfl) (by kernel_rfl) (by kernel_rfl) (fun _ _ _ h => h) (Or.inl ⟨by rfl, ?_⟩) (by assumption) ?_
                rotate_left
                · (intro wz hSw; (try dsimp only at hSw); go_simp; try with_reducible rfl)
                simp only [Act.put, List.setIfInBounds_toArray, List.set_cons_zero, List.set_cons_succ]
                refine wpAnyH_take (i := 2) (oi := { dst := some 95, op := Op.fieldAddr 32 (Operand.tmp 7) 3, type := 0, pos := "outright.go:174", after := #[], guard := none }) (v := ?_) rfl (by kernel_rfl) (by kernel_rfl) (by kernel_rfl) (fun _ _ _ h => h) (Or.inl ⟨by rfl, ?_⟩) (by assumption) ?_
                rotate_left
                · (intro wz hSw; (try dsimp only at hSw); go_simp; try with_reducible rfl)
                simp only [Act.put, List.setIfInBounds_toArray, List.set_cons_zero, List.set_cons_succ]
                refine wpAnyH_take (i := 3) (oi := { dst := some 96, op := Op.load 30 (Operand.tmp 95), type := 30, pos := "outright.go:174", after := #[{ on := 2, ground := Ground.data }], guard := none }) (v := ?_) rfl (by kernel_rfl) (by kernel_rfl) (by kernel_rfl) (fun _ _ _ h => h) (Or.inl ⟨by rfl, ?_⟩) (by assumption) ?_
                rotate_left
                · (intro wz hSw; (try dsimp only at hSw); go_simp; try with_reducible rfl)
                simp only [Act.put, List.setIfInBounds_toArray, List.set_cons_zero, List.set_cons_succ]
                refine wpAnyH_take (i := 4) (oi := { dst := some 97, op := Op.move (Operand.tmp 13), type := 67, pos := "outright.go:174", after := #[], guard := none }) (v := ?_) rfl (by kernel_rfl) (by kernel_rfl) (by kernel_rfl) (fun _ _ _ h => h) (Or.inl ⟨by rfl, ?_⟩) (by assumption) ?_
                rotate_left
                · (intro wz hSw; (try dsimp only at hSw); go_simp; try with_reducible rfl)
                simp only [Act.put, List.setIfInBounds_toArray, List.set_cons_zero, List.set_cons_succ]
                refine wpAnyH_take (i := 5) (oi := { dst := some 98, op := Op.nilCheck (Operand.tmp 97), type := 0, pos := "outright.go:174", after := #[{ on := 4, ground := Ground.data }], guard := none }) (v := ?_) rfl (by kernel_rfl) (by kernel_rfl) (by kernel_rfl) (fun _ _ _ h => h) (Or.inl ⟨by rfl, ?_⟩) (by assumption) ?_
                rotate_left
                · (intro wz hSw; (try dsimp only at hSw); go_simp; try with_reducible rfl)
                simp only [Act.put, List.setIfInBounds_toArray, List.set_cons_zero, List.set_cons_succ]
                refine wpAnyH_take (i := 6) (oi := { dst := some 99, op := Op.fieldAddr 70 (Operand.tmp 98) 0, type := 0, pos := "outright.go:174", after := #[{ on := 5, ground := Ground.data }], guard := none }) (v := ?_) rfl (by kernel_rfl) (by kernel_rfl) (by kernel_rfl) (fun _ _ _ h => h) (Or.inl ⟨by rfl, ?_⟩) (by assumption) ?_
                rotate_left
                · (intro wz hSw; (try dsimp only at hSw); go_simp; try with_reducible rfl)
                simp only [Act.put, List.setIfInBounds_toArray, List.set_cons_zero, List.set_cons_succ]
                refine wpAnyH_ready (rs := [7]) (by kernel_rfl) (by simp) ?_
                refine AllReadyH.cons (o := { dst := some 100, op := Op.load 3 (Operand.tmp 99), type := 3, pos := "outright.go:174", after := #[{ on := 6, ground := Ground.data }], guard := none }) rfl (fun K hK => ?_) ?_
                · go_simp
                  refine hK.out _ _ ?_ (fun hHeld2 => ?_)
                  · (try dsimp only); (first | with_reducible exact hs2 | go_keep)
                  clear hK K
                  try simp only [Act.put, List.setIfInBounds_toArray, List.set_cons_zero, List.set_cons_succ]
                  refine wpAnyH_take (i := 8) (oi := { dst := some 101, op := Op.indexAddr 30 (Operand.tmp 96) (Operand.tmp 100), type := 0, pos := "outright.go:174", after := #[{ on := 3, ground := Ground.data }, { on := 7, ground := Ground.data }], guard := none }) (v := ?_) rfl (by kernel_rfl) (by kernel_rfl) (by kernel_rfl) (fun _ _ _ h => h) (Or.inl ⟨by rfl, ?_⟩) (by assumption) ?_
                  rotate_left
                  · (intro wz hSw; (try dsimp only at hSw); go_simp; try with_reducible rfl)
                  simp only [Act.put, List.setIfInBounds_toArray, List.set_cons_zero, List.set_cons_succ]
                  refine wpAnyH_take (i := 9) (oi := { dst := some 102, op := Op.fieldAddr 34 (Operand.tmp 101) 0, type := 0, pos := "outright.go:174", after := #[{ on := 8, ground := Ground.data }], guard := none }) (v := ?_) rfl (by kernel_rfl) (by kernel_rfl) (by kernel_rfl) (fun _ _ _ h => h) (Or.inl ⟨by rfl, ?_⟩) (by assumption) ?_
                  rotate_left
                  · (intro wz hSw; (try dsimp only at hSw); go_simp; try with_reducible rfl)
                  simp only [Act.put, List.setIfInBounds_toArray, List.set_cons_zero, List.set_cons_succ]
                  refine wpAnyH_take (i := 10) (oi := { dst := some 103, op := Op.load 3 (Operand.tmp 102), type := 3, pos := "outright.go:174", after := #[{ on := 9, ground := Ground.data }], guard := none }) (v := ?_) rfl (by kernel_rfl) (by kernel_rfl) (by kernel_rfl) (fun _ _ _ h => h) (Or.inl ⟨by rfl, ?_⟩) (by assumption) ?_
                  rotate_left
                  · (intro wz hSw; (try dsimp only at hSw); go_simp; try with_reducible rfl)
                  simp only [Act.put, List.setIfInBounds_toArray, List.set_cons_zero, List.set_cons_succ]
                  refine wpAnyH_take (i := 11) (oi := { dst := some 104, op := Op.binOp BinOp.eql 3 (Operand.tmp 103) (Operand.const (Value.int IntKind.i64 4)) 3, type := 4, pos := "outright.go:174", after := #[{ on := 10, ground := Ground.data }], guard := none }) (v := ?_) rfl (by kernel_rfl) (by kernel_rfl) (by kernel_rfl) (fun _ _ _ h => h) (Or.inl ⟨by rfl, ?_⟩) (by assumption) ?_
                  rotate_left
                  · (intro wz hSw; (try dsimp only at hSw); go_simp; try with_reducible rfl)
                  simp only [Act.put, List.setIfInBounds_toArray, List.set_cons_zero, List.set_cons_succ]
                  refine wpAnyH_take (i := 12) (oi := { dst := some 105, op := Op.move (Operand.tmp 104), type := 4, pos := "outright.go:174", after := #[{ on := 11, ground := Ground.data }], guard := none }) (v := ?_) rfl (by kernel_rfl) (by kernel_rfl) (by kernel_rfl) (fun _ _ _ h => h) (Or.inl ⟨by rfl, ?_⟩) (by assumption) ?_
                  rotate_left
                  · (intro wz hSw; (try dsimp only at hSw); go_simp; try with_reducible rfl)
                  simp only [Act.put, List.setIfInBounds_toArray, List.set_cons_zero, List.set_cons_succ]
                  first | (refine wpAnyH_take (i := 13) (oi := { dst := some 106, op := Op.fieldAddr 32 (Operand.tmp 7) 3, type := 0, pos := "outright.go:174", after := #[{ on := 12, ground := Ground.guard }], guard := some (12, true) }) (v := undef) rfl (by kernel_rfl) (by kernel_rfl) (by kernel_rfl) (fun _ _ _ h => h) (Or.inr ⟨by rfl, rfl⟩) (by assumption) ?_) | (refine wpAnyH_take (i := 13) (oi := { dst := some 106, op := Op.fieldAddr 32 (Operand.tmp 7) 3, type := 0, pos := "outright.go:174", after := #[{ on := 12, ground := Ground.guard }], guard := some (12, true) }) (v := ?_) rfl (by kernel_rfl) (by kernel_rfl) (by kernel_rfl) (fun _ _ _ h => h) (Or.inl ⟨by rfl, ?_⟩) (by assumption) ?_; rotate_left; (· (intro wz hSw; (try dsimp only at hSw); go_simp; try with_reducible rfl)))
                  simp only [Act.put, List.setIfInBounds_toArray, List.set_cons_zero, List.set_cons_succ]
                  first | (refine wpAnyH_take (i := 14) (oi := { dst := some 107, op := Op.load 30 (Operand.tmp 106), type := 30, pos := "outright.go:174", after := #[{ on := 13, ground := Ground.data }, { on := 12, ground := Ground.guard }], guard := some (12, true) }) (v := undef) rfl (by kernel_rfl) (by kernel_rfl) (by kernel_rfl) (fun _ _ _ h => h) (Or.inr ⟨by rfl, rfl⟩) (by assumption) ?_) | (refine wpAnyH_take (i := 14) (oi := { dst := some 107, op := Op.load 30 (Operand.tmp 106), type := 30, pos := "outright.go:174", after := #[{ on := 13, ground := Ground.data }, { on := 12, ground := Ground.guard }], guard := some (12, true) }) (v := ?_) rfl (by kernel_rfl) (by kernel_rfl) (by kernel_rfl) (fun _ _ _ h => h) (Or.inl ⟨by rfl, ?_⟩) (by assumption) ?_; rotate_left; (· (intro wz hSw; (try dsimp only at hSw); go_simp; try with_reducible rfl)))
                  simp only [Act.put, List.setIfInBounds_toArray, List.set_cons_zero, List.set_cons_succ]
                  first | (refine wpAnyH_take (i := 15) (oi := { dst := some 108, op := Op.move (Operand.tmp 13), type := 67, pos := "outright.go:174", after := #[{ on := 12, ground := Ground.guard }], guard := some (12, true) }) (v := undef) rfl (by kernel_rfl) (by kernel_rfl) (by kernel_rfl) (fun _ _ _ h => h) (Or.inr ⟨by rfl, rfl⟩) (by assumption) ?_) | (refine wpAnyH_take (i := 15) (oi := { dst := some 108, op := Op.move (Operand.tmp 13), type := 67, pos := "outright.go:174", after := #[{ on := 12, ground := Ground.guard }], guard := some (12, true) }) (v := ?_) rfl (by kernel_rfl) (by kernel_rfl) (by kernel_rfl) (fun _ _ _ h => h) (Or.inl ⟨by rfl, ?_⟩) (by assumption) ?_; rotate_left; (· (intro wz hSw; (try dsimp only at hSw); go_simp; try with_reducible rfl)))
                  simp only [Act.put, List.setIfInBounds_toArray, List.set_cons_zero, List.set_cons_succ]
                  first | (refine wpAnyH_take (i := 16) (oi := { dst := some 109, op := Op.nilCheck (Operand.tmp 108), type := 0, pos := "outright.go:174", after := #[{ on := 15, ground := Ground.data }, { on := 12, ground := Ground.guard }], guard := some (12, true) }) (v := undef) rfl (by kernel_rfl) (by kernel_rfl) (by kernel_rfl) (fun _ _ _ h => h) (Or.inr ⟨by rfl, rfl⟩) (by assumption) ?_) | (refine wpAnyH_take (i := 16) (oi := { dst := some 109, op := Op.nilCheck (Operand.tmp 108), type := 0, pos := "outright.go:174", after := #[{ on := 15, ground := Ground.data }, { on := 12, ground := Ground.guard }], guard := some (12, true) }) (v := ?_) rfl (by kernel_rfl) (by kernel_rfl) (by kernel_rfl) (fun _ _ _ h => h) (Or.inl ⟨by rfl, ?_⟩) (by assumption) ?_; rotate_left; (· (intro wz hSw; (try dsimp only at hSw); go_simp; try with_reducible rfl)))
                  simp only [Act.put, List.setIfInBounds_toArray, List.set_cons_zero, List.set_cons_succ]
                  first | (refine wpAnyH_take (i := 17) (oi := { dst := some 110, op := Op.fieldAddr 70 (Operand.tmp 109) 0, type := 0, pos := "outright.go:174", after := #[{ on := 16, ground := Ground.data }, { on := 12, ground := Ground.guard }], guard := some (12, true) }) (v := undef) rfl (by kernel_rfl) (by kernel_rfl) (by kernel_rfl) (fun _ _ _ h => h) (Or.inr ⟨by rfl, rfl⟩) (by assumption) ?_) | (refine wpAnyH_take (i := 17) (oi := { dst := some 110, op := Op.fieldAddr 70 (Operand.tmp 109) 0, type := 0, pos := "outright.go:174", after := #[{ on := 16, ground := Ground.data }, { on := 12, ground := Ground.guard }], guard := some (12, true) }) (v := ?_) rfl (by kernel_rfl) (by kernel_rfl) (by kernel_rfl) (fun _ _ _ h => h) (Or.inl ⟨by rfl, ?_⟩) (by assumption) ?_; rotate_left; (· (intro wz hSw; (try dsimp only at hSw); go_simp; try with_reducible rfl)))
                  simp only [Act.put, List.setIfInBounds_toArray, List.set_cons_zero, List.set_cons_succ]
                  first | (refine wpAnyH_take (i := 22) (oi := { dst := some 115, op := Op.move (Operand.tmp 15), type := 3, pos := "outright.go:174", after := #[{ on := 12, ground := Ground.guard }], guard := some (12, true) }) (v := undef) rfl (by kernel_rfl) (by kernel_rfl) (by kernel_rfl) (fun _ _ _ h => h) (Or.inr ⟨by rfl, rfl⟩) (by assumption) ?_) | (refine wpAnyH_take (i := 22) (oi := { dst := some 115, op := Op.move (Operand.tmp 15), type := 3, pos := "outright.go:174", after := #[{ on := 12, ground := Ground.guard }], guard := some (12, true) }) (v := ?_) rfl (by kernel_rfl) (by kernel_rfl) (by kernel_rfl) (fun _ _ _ h => h) (Or.inl ⟨by rfl, ?_⟩) (by assumption) ?_; rotate_left; (· (intro wz hSw; (try dsimp only at hSw); go_simp; try with_reducible rfl)))
                  simp only [Act.put, List.setIfInBounds_toArray, List.set_cons_zero, List.set_cons_succ]
                  refine wpAnyH_ready (rs := [18]) (by kernel_rfl) (by simp) ?_
                  refine AllReadyH.cons (o := { dst := some 111, op := Op.load 3 (Operand.tmp 110), type := 3, pos := "outright.go:174", after := #[{ on := 17, ground := Ground.data }, { on := 12, ground := Ground.guard }], guard := some (12, true) }) rfl (fun K hK => ?_) ?_
                  · go_simp
                    refine hK.out _ _ ?_ (fun hHeld2 => ?_)
                    · (try dsimp only); (first | with_reducible exact hs2 | go_keep)
                    clear hK K
                    try simp only [Act.put, List.setIfInBounds_toArray, List.set_cons_zero, List.set_cons_succ]
                    first | (refine wpAnyH_take (i := 19) (oi := { dst := some 112, op := Op.indexAddr 30 (Operand.tmp 107) (Operand.tmp 111), type := 0, pos := "outright.go:174", after := #[{ on := 14, ground := Ground.data }, { on := 18, ground := Ground.data }, { on := 12, ground := Ground.guard }], guard := some (12, true) }) (v := undef) rfl (by kernel_rfl) (by kernel_rfl) (by kernel_rfl) (fun _ _ _ h => h) (Or.inr ⟨by rfl, rfl⟩) (by assumption) ?_) | (refine wpAnyH_take (i := 19) (oi := { dst := some 112, op := Op.indexAddr 30 (Operand.tmp 107) (Operand.tmp 111), type := 0, pos := "outright.go:174", after := #[{ on := 14, ground := Ground.data }, { on := 18, ground := Ground.data }, { on := 12, ground := Ground.guard }], guard := some (12, true) }) (v := ?_) rfl (by kernel_rfl) (by kernel_rfl) (by kernel_rfl) (fun _ _ _ h => h) (Or.inl ⟨by rfl, ?_⟩) (by assumption) ?_; rotate_left; (· (intro wz hSw; (try dsimp only at hSw); go_simp; try with_reducible rfl)))
                    simp only [Act.put, List.setIfInBounds_toArray, List.set_cons_zero, List.set_cons_succ]
                    first | (refine wpAnyH_take (i := 20) (oi := { dst := some 113, op := Op.fieldAddr 34 (Operand.tmp 112) 2, type := 0, pos := "outright.go:174", after := #[{ on := 19, ground := Ground.data }, { on := 12, ground := Ground.guard }], guard := some (12, true) }) (v := undef) rfl (by kernel_rfl) (by kernel_rfl) (by kernel_rfl) (fun _ _ _ h => h) (Or.inr ⟨by rfl, rfl⟩) (by assumption) ?_) | (refine wpAnyH_take (i := 20) (oi := { dst := some 113, op := Op.fieldAddr 34 (Operand.tmp 112) 2, type := 0, pos := "outright.go:174", after := #[{ on := 19, ground := Ground.data }, { on := 12, ground := Ground.guard }], guard := some (12, true) }) (v := ?_) rfl (by kernel_rfl) (by kernel_rfl) (by kernel_rfl) (fun _ _ _ h => h) (Or.inl ⟨by rfl, ?_⟩) (by assumption) ?_; rotate_left; (· (intro wz hSw; (try dsimp only at hSw); go_simp; try with_reducible rfl)))
                    simp only [Act.put, List.setIfInBounds_toArray, List.set_cons_zero, List.set_cons_succ]
                    first | (refine wpAnyH_take (i := 21) (oi := { dst := some 114, op := Op.load 3 (Operand.tmp 113), type := 3, pos := "outright.go:174", after := #[{ on := 20, ground := Ground.data }, { on := 12, ground := Ground.guard }], guard := some (12, true) }) (v := undef) rfl (by kernel_rfl) (by kernel_rfl) (by kernel_rfl) (fun _ _ _ h => h) (Or.inr ⟨by rfl, rfl⟩) (by assumption) ?_) | (refine wpAnyH_take (i := 21) (oi := { dst := some 114, op := Op.load 3 (Operand.tmp 113), type := 3, pos := "outright.go:174", after := #[{ on := 20, ground := Ground.data }, { on := 12, ground := Ground.guard }], guard := some (12, true) }) (v := ?_) rfl (by kernel_rfl) (by kernel_rfl) (by kernel_rfl) (fun _ _ _ h => h) (Or.inl ⟨by rfl, ?_⟩) (by assumption) ?_; rotate_left; (· (intro wz hSw; (try dsimp only at hSw); go_simp; try with_reducible rfl)))
                    simp only [Act.put, List.setIfInBounds_toArray, List.set_cons_zero, List.set_cons_succ]
                    first | (refine wpAnyH_take (i := 23) (oi := { dst := some 116, op := Op.binOp BinOp.eql 3 (Operand.tmp 114) (Operand.tmp 115) 3, type := 4, pos := "outright.go:174", after := #[{ on := 21, ground := Ground.data }, { on := 22, ground := Ground.data }, { on := 12, ground := Ground.guard }], guard := some (12, true) }) (v := undef) rfl (by kernel_rfl) (by kernel_rfl) (by kernel_rfl) (fun _ _ _ h => h) (Or.inr ⟨by rfl, rfl⟩) (by assumption) ?_) | (refine wpAnyH_take (i := 23) (oi := { dst := some 116, op := Op.binOp BinOp.eql 3 (Operand.tmp 114) (Operand.tmp 115) 3, type := 4, pos := "outright.go:174", after := #[{ on := 21, ground := Ground.data }, { on := 22, ground := Ground.data }, { on := 12, ground := Ground.guard }], guard := some (12, true) }) (v := ?_) rfl (by kernel_rfl) (by kernel_rfl) (by kernel_rfl) (fun _ _ _ h => h) (Or.inl ⟨by rfl, ?_⟩) (by assumption) ?_; rotate_left; (· (intro wz hSw; (try dsimp only at hSw); go_simp; try with_reducible rfl)))
                    simp only [Act.put, List.setIfInBounds_toArray, List.set_cons_zero, List.set_cons_succ]
                    refine wpAnyH_take (i := 24) (oi := { dst := some 117, op := Op.pick (Operand.tmp 105) (Operand.tmp 116) (Operand.const (Value.bool false)), type := 4, pos := "outright.go:174", after := #[{ on := 12, ground := Ground.data }, { on := 23, ground := Ground.data }], guard := none }) (v := ?_) rfl (by kernel_rfl) (by kernel_rfl) (by kernel_rfl) (fun _ _ _ h => h) (Or.inl ⟨by rfl, ?_⟩) (by assumption) ?_
                    rotate_left
                    · (intro wz hSw; (try dsimp only at hSw); go_simp; try with_reducible rfl)
                    simp only [Act.put, List.setIfInBounds_toArray, List.set_cons_zero, List.set_cons_succ]
                    refine wpAnyH_ready (rs := [25]) (by kernel_rfl) (by simp) ?_
                    refine AllReadyH.cons (o := { dst := some 118, op := Op.call { callee := Callee.value (Operand.func 27), args := #[Operand.tmp 93, Operand.tmp 94, Operand.tmp 117], argTypes := #[67, 32, 4] }, type := 0, pos := "outright.go:174", after := #[{ on := 0, ground := Ground.data }, { on := 1, ground := Ground.data }, { on := 24, ground := Ground.data }, { on := 12, ground := Ground.chain }], guard := none }) rfl (fun K hK => ?_) ?_
                    · go_simp
                      refine hst.mono ?_
                      rintro _ w11 ⟨rfl, hwk11, hk11⟩
                      have hs2 : w11.cell? ⟨B + 1, 0, none⟩ = some (.int .i64 f.params) ∧ w11.cell? ⟨B + 1, 1, none⟩ = some (.int .i64 f.regs) ∧ w11.cell? ⟨B + 1, 2, none⟩ = some (.int .i64 f.slots) ∧ w11.cell? ⟨B + 1, 3, none⟩ = some (.slice (some ⟨bI, oI, none⟩) m cc) ∧ w11.cell? ⟨bI, oI + u * 5, none⟩ = some (.int .i64 x.kind) ∧ w11.cell? ⟨bI, oI + u * 5 + 2, none⟩ = some (.int .i64 x.b) := ⟨hk11.cell F0 HN.out.1, hk11.cell F1 HN.out.1, hk11.cell F2 HN.out.1, hk11.cell F3 HN.out.1, hk11.cell y0 HN.out.2, hk11.cell y2 HN.out.2⟩
                      refine hK.out _ _ ?_ (fun hHeld2 => ?_)
                      · (try dsimp only); (first | with_reducible exact hs2 | go_keep)
                      clear hK K
                      try simp only [Act.put, List.setIfInBounds_toArray, List.set_cons_zero, List.set_cons_succ]
                      refine wpAnyH_done (by kernel_rfl) ?_ _
                      go_wp2_with fail
                      go_meet
                      exact ⟨hwk11, (Keeps.drew (· = X) wc).trans hk11 (fun _ e _ => e)⟩
                    exact AllReadyH.nil
                  exact AllReadyH.nil
                exact AllReadyH.nil
              · have kb : (x.b == v) = false := by simpa using hbv
                have htv : tv = false := by rw [HT.out.2.2.1]; simp [hbv]
                subst htv
                clear hk4 hbv
                refine wp_region_held_drew (S := (fun w' => w'.cell? ⟨B + 1, 0, none⟩ = some (.int .i64 f.params) ∧ w'.cell? ⟨B + 1, 1, none⟩ = some (.int .i64 f.regs) ∧ w'.cell? ⟨B + 1, 2, none⟩ = some (.int .i64 f.slots) ∧ w'.cell? ⟨B + 1, 3, none⟩ = some (.slice (some ⟨bI, oI, none⟩) m cc) ∧ w'.cell? ⟨bI, oI + u * 5, none⟩ = some (.int .i64 x.kind) ∧ w'.cell? ⟨bI, oI + u * 5 + 2, none⟩ = some (.int .i64 x.b))) (by kernel_rfl) ?_ (fun hHeld => ?_)
                · (try dsimp only); (first | with_reducible exact hs2 | go_keep)
                refine wpAnyH_take (i := 0) (oi := { dst := some 93, op := Op.move (Operand.tmp 13), type := 67, pos := "outright.go:174", after := #[], guard := none }) (v := ?_) rfl (by kernel_rfl) (by kernel_rfl) (by kernel_rfl) (fun _ _ _ h => h) (Or.inl ⟨by rfl, ?_⟩) (by assumption) ?_
                rotate_left
                · (intro wz hSw; (try dsimp only at hSw); go_simp; try with_reducible rfl)
                simp only [Act.put, List.setIfInBounds_toArray, List.set_cons_zero, List.set_cons_succ]
                refine wpAnyH_take (i := 1) (oi := { dst := some 94, op := Op.load 32 (Operand.tmp 7), type := 32, pos := "outright.go:174", after := #[], guard := none }) (v := ?_) rfl (by kernel_rfl) (by kernel_rfl) (by kernel_rfl) (fun _ _ _ h => h) (Or.inl ⟨by rfl, ?_⟩) (by assumption) ?_
                rotate_left
                · (intro wz hSw; (try dsimp only at hSw); go_simp; try with_reducible rfl)
                simp only [Act.put, List.setIfInBounds_toArray, List.set_cons_zero, List.set_cons_succ]
                refine wpAnyH_take (i := 2) (oi := { dst := some 95, op := Op.fieldAddr 32 (Operand.tmp 7) 3, type := 0, pos := "outright.go:174", after := #[], guard := none }) (v := ?_) rfl (by kernel_rfl) (by kernel_rfl) (by kernel_rfl) (fun _ _ _ h => h) (Or.inl ⟨by rfl, ?_⟩) (by assumption) ?_
                rotate_left
                · (intro wz hSw; (try dsimp only at hSw); go_simp; try with_reducible rfl)
                simp only [Act.put, List.setIfInBounds_toArray, List.set_cons_zero, List.set_cons_succ]
                refine wpAnyH_take (i := 3) (oi := { dst := some 96, op := Op.load 30 (Operand.tmp 95), type := 30, pos := "outright.go:174", after := #[{ on := 2, ground := Ground.data }], guard := none }) (v := ?_) rfl (by kernel_rfl) (by kernel_rfl) (by kernel_rfl) (fun _ _ _ h => h) (Or.inl ⟨by rfl, ?_⟩) (by assumption) ?_
                rotate_left
                · (intro wz hSw; (try dsimp only at hSw); go_simp; try with_reducible rfl)
                simp only [Act.put, List.setIfInBounds_toArray, List.set_cons_zero, List.set_cons_succ]
                refine wpAnyH_take (i := 4) (oi := { dst := some 97, op := Op.move (Operand.tmp 13), type := 67, pos := "outright.go:174", after := #[], guard := none }) (v := ?_) rfl (by kernel_rfl) (by kernel_rfl) (by kernel_rfl) (fun _ _ _ h => h) (Or.inl ⟨by rfl, ?_⟩) (by assumption) ?_
                rotate_left
                · (intro wz hSw; (try dsimp only at hSw); go_simp; try with_reducible rfl)
                simp only [Act.put, List.setIfInBounds_toArray, List.set_cons_zero, List.set_cons_succ]
                refine wpAnyH_take (i := 5) (oi := { dst := some 98, op := Op.nilCheck (Operand.tmp 97), type := 0, pos := "outright.go:174", after := #[{ on := 4, ground := Ground.data }], guard := none }) (v := ?_) rfl (by kernel_rfl) (by kernel_rfl) (by kernel_rfl) (fun _ _ _ h => h) (Or.inl ⟨by rfl, ?_⟩) (by assumption) ?_
                rotate_left
                · (intro wz hSw; (try dsimp only at hSw); go_simp; try with_reducible rfl)
                simp only [Act.put, List.setIfInBounds_toArray, List.set_cons_zero, List.set_cons_succ]
                refine wpAnyH_take (i := 6) (oi := { dst := some 99, op := Op.fieldAddr 70 (Operand.tmp 98) 0, type := 0, pos := "outright.go:174", after := #[{ on := 5, ground := Ground.data }], guard := none }) (v := ?_) rfl (by kernel_rfl) (by kernel_rfl) (by kernel_rfl) (fun _ _ _ h => h) (Or.inl ⟨by rfl, ?_⟩) (by assumption) ?_
                rotate_left
                · (intro wz hSw; (try dsimp only at hSw); go_simp; try with_reducible rfl)
                simp only [Act.put, List.setIfInBounds_toArray, List.set_cons_zero, List.set_cons_succ]
                refine wpAnyH_ready (rs := [7]) (by kernel_rfl) (by simp) ?_
                refine AllReadyH.cons (o := { dst := some 100, op := Op.load 3 (Operand.tmp 99), type := 3, pos := "outright.go:174", after := #[{ on := 6, ground := Ground.data }], guard := none }) rfl (fun K hK => ?_) ?_
                · go_simp
                  refine hK.out _ _ ?_ (fun hHeld2 => ?_)
                  · (try dsimp only); (first | with_reducible exact hs2 | go_keep)
                  clear hK K
                  try simp only [Act.put, List.setIfInBounds_toArray, List.set_cons_zero, List.set_cons_succ]
                  refine wpAnyH_take (i := 8) (oi := { dst := some 101, op := Op.indexAddr 30 (Operand.tmp 96) (Operand.tmp 100), type := 0, pos := "outright.go:174", after := #[{ on := 3, ground := Ground.data }, { on := 7, ground := Ground.data }], guard := none }) (v := ?_) rfl (by kernel_rfl) (by kernel_rfl) (by kernel_rfl) (fun _ _ _ h => h) (Or.inl ⟨by rfl, ?_⟩) (by assumption) ?_
                  rotate_left
                  · (intro wz hSw; (try dsimp only at hSw); go_simp; try with_reducible rfl)
                  simp only [Act.put, List.setIfInBounds_toArray, List.set_cons_zero, List.set_cons_succ]
                  refine wpAnyH_take (i := 9) (oi := { dst := some 102, op := Op.fieldAddr 34 (Operand.tmp 101) 0, type := 0, pos := "outright.go:174", after := #[{ on := 8, ground := Ground.data }], guard := none }) (v := ?_) rfl (by kernel_rfl) (by kernel_rfl) (by kernel_rfl) (fun _ _ _ h => h) (Or.inl ⟨by rfl, ?_⟩) (by assumption) ?_
                  rotate_left
                  · (intro wz hSw; (try dsimp only at hSw); go_simp; try with_reducible rfl)
                  simp only [Act.put, List.setIfInBounds_toArray, List.set_cons_zero, List.set_cons_succ]
                  refine wpAnyH_take (i := 10) (oi := { dst := some 103, op := Op.load 3 (Operand.tmp 102), type := 3, pos := "outright.go:174", after := #[{ on := 9, ground := Ground.data }], guard := none }) (v := ?_) rfl (by kernel_rfl) (by kernel_rfl) (by kernel_rfl) (fun _ _ _ h => h) (Or.inl ⟨by rfl, ?_⟩) (by assumption) ?_
                  rotate_left
                  · (intro wz hSw; (try dsimp only at hSw); go_simp; try with_reducible rfl)
                  simp only [Act.put, List.setIfInBounds_toArray, List.set_cons_zero, List.set_cons_succ]
                  refine wpAnyH_take (i := 11) (oi := { dst := some 104, op := Op.binOp BinOp.eql 3 (Operand.tmp 103) (Operand.const (Value.int IntKind.i64 4)) 3, type := 4, pos := "outright.go:174", after := #[{ on := 10, ground := Ground.data }], guard := none }) (v := ?_) rfl (by kernel_rfl) (by kernel_rfl) (by kernel_rfl) (fun _ _ _ h => h) (Or.inl ⟨by rfl, ?_⟩) (by assumption) ?_
                  rotate_left
                  · (intro wz hSw; (try dsimp only at hSw); go_simp; try with_reducible rfl)
                  simp only [Act.put, List.setIfInBounds_toArray, List.set_cons_zero, List.set_cons_succ]
                  refine wpAnyH_take (i := 12) (oi := { dst := some 105, op := Op.move (Operand.tmp 104), type := 4, pos := "outright.go:174", after := #[{ on := 11, ground := Ground.data }], guard := none }) (v := ?_) rfl (by kernel_rfl) (by kernel_rfl) (by kernel_rfl) (fun _ _ _ h => h) (Or.inl ⟨by rfl, ?_⟩) (by assumption) ?_
                  rotate_left
                  · (intro wz hSw; (try dsimp only at hSw); go_simp; try with_reducible rfl)
                  simp only [Act.put, List.setIfInBounds_toArray, List.set_cons_zero, List.set_cons_succ]
                  first | (refine wpAnyH_take (i := 13) (oi := { dst := some 106, op := Op.fieldAddr 32 (Operand.tmp 7) 3, type := 0, pos := "outright.go:174", after := #[{ on := 12, ground := Ground.guard }], guard := some (12, true) }) (v := undef) rfl (by kernel_rfl) (by kernel_rfl) (by kernel_rfl) (fun _ _ _ h => h) (Or.inr ⟨by rfl, rfl⟩) (by assumption) ?_) | (refine wpAnyH_take (i := 13) (oi := { dst := some 106, op := Op.fieldAddr 32 (Operand.tmp 7) 3, type := 0, pos := "outright.go:174", after := #[{ on := 12, ground := Ground.guard }], guard := some (12, true) }) (v := ?_) rfl (by kernel_rfl) (by kernel_rfl) (by kernel_rfl) (fun _ _ _ h => h) (Or.inl ⟨by rfl, ?_⟩) (by assumption) ?_; rotate_left; (· (intro wz hSw; (try dsimp only at hSw); go_simp; try with_reducible rfl)))
                  simp only [Act.put, List.setIfInBounds_toArray, List.set_cons_zero, List.set_cons_succ]
                  first | (refine wpAnyH_take (i := 14) (oi := { dst := some 107, op := Op.load 30 (Operand.tmp 106), type := 30, pos := "outright.go:174", after := #[{ on := 13, ground := Ground.data }, { on := 12, ground := Ground.guard }], guard := some (12, true) }) (v := undef) rfl (by kernel_rfl) (by kernel_rfl) (by kernel_rfl) (fun _ _ _ h => h) (Or.inr ⟨by rfl, rfl⟩) (by assumption) ?_) | (refine wpAnyH_take (i := 14) (oi := { dst := some 107, op := Op.load 30 (Operand.tmp 106), type := 30, pos := "outright.go:174", after := #[{ on := 13, ground := Ground.data }, { on := 12, ground := Ground.guard }], guard := some (12, true) }) (v := ?_) rfl (by kernel_rfl) (by kernel_rfl) (by kernel_rfl) (fun _ _ _ h => h) (Or.inl ⟨by rfl, ?_⟩) (by assumption) ?_; rotate_left; (· (intro wz hSw; (try dsimp only at hSw); go_simp; try with_reducible rfl)))
                  simp only [Act.put, List.setIfInBounds_toArray, List.set_cons_zero, List.set_cons_succ]
                  first | (refine wpAnyH_take (i := 15) (oi := { dst := some 108, op := Op.move (Operand.tmp 13), type := 67, pos := "outright.go:174", after := #[{ on := 12, ground := Ground.guard }], guard := some (12, true) }) (v := undef) rfl (by kernel_rfl) (by kernel_rfl) (by kernel_rfl) (fun _ _ _ h => h) (Or.inr ⟨by rfl, rfl⟩) (by assumption) ?_) | (refine wpAnyH_take (i := 15) (oi := { dst := some 108, op := Op.move (Operand.tmp 13), type := 67, pos := "outright.go:174", after := #[{ on := 12, ground := Ground.guard }], guard := some (12, true) }) (v := ?_) rfl (by kernel_rfl) (by kernel_rfl) (by kernel_rfl) (fun _ _ _ h => h) (Or.inl ⟨by rfl, ?_⟩) (by assumption) ?_; rotate_left; (· (intro wz hSw; (try dsimp only at hSw); go_simp; try with_reducible rfl)))
                  simp only [Act.put, List.setIfInBounds_toArray, List.set_cons_zero, List.set_cons_succ]
                  first | (refine wpAnyH_take (i := 16) (oi := { dst := some 109, op := Op.nilCheck (Operand.tmp 108), type := 0, pos := "outright.go:174", after := #[{ on := 15, ground := Ground.data }, { on := 12, ground := Ground.guard }], guard := some (12, true) }) (v := undef) rfl (by kernel_rfl) (by kernel_rfl) (by kernel_rfl) (fun _ _ _ h => h) (Or.inr ⟨by rfl, rfl⟩) (by assumption) ?_) | (refine wpAnyH_take (i := 16) (oi := { dst := some 109, op := Op.nilCheck (Operand.tmp 108), type := 0, pos := "outright.go:174", after := #[{ on := 15, ground := Ground.data }, { on := 12, ground := Ground.guard }], guard := some (12, true) }) (v := ?_) rfl (by kernel_rfl) (by kernel_rfl) (by kernel_rfl) (fun _ _ _ h => h) (Or.inl ⟨by rfl, ?_⟩) (by assumption) ?_; rotate_left; (· (intro wz hSw; (try dsimp only at hSw); go_simp; try with_reducible rfl)))
                  simp only [Act.put, List.setIfInBounds_toArray, List.set_cons_zero, List.set_cons_succ]
                  first | (refine wpAnyH_take (i := 17) (oi := { dst := some 110, op := Op.fieldAddr 70 (Operand.tmp 109) 0, type := 0, pos := "outright.go:174", after := #[{ on := 16, ground := Ground.data }, { on := 12, ground := Ground.guard }], guard := some (12, true) }) (v := undef) rfl (by kernel_rfl) (by kernel_rfl) (by kernel_rfl) (fun _ _ _ h => h) (Or.inr ⟨by rfl, rfl⟩) (by assumption) ?_) | (refine wpAnyH_take (i := 17) (oi := { dst := some 110, op := Op.fieldAddr 70 (Operand.tmp 109) 0, type := 0, pos := "outright.go:174", after := #[{ on := 16, ground := Ground.data }, { on := 12, ground := Ground.guard }], guard := some (12, true) }) (v := ?_) rfl (by kernel_rfl) (by kernel_rfl) (by kernel_rfl) (fun _ _ _ h => h) (Or.inl ⟨by rfl, ?_⟩) (by assumption) ?_; rotate_left; (· (intro wz hSw; (try dsimp only at hSw); go_simp; try with_reducible rfl)))
                  simp only [Act.put, List.setIfInBounds_toArray, List.set_cons_zero, List.set_cons_succ]
                  first | (refine wpAnyH_take (i := 22) (oi := { dst := some 115, op := Op.move (Operand.tmp 15), type := 3, pos := "outright.go:174", after := #[{ on := 12, ground := Ground.guard }], guard := some (12, true) }) (v := undef) rfl (by kernel_rfl) (by kernel_rfl) (by kernel_rfl) (fun _ _ _ h => h) (Or.inr ⟨by rfl, rfl⟩) (by assumption) ?_) | (refine wpAnyH_take (i := 22) (oi := { dst := some 115, op := Op.move (Operand.tmp 15), type := 3, pos := "outright.go:174", after := #[{ on := 12, ground := Ground.guard }], guard := some (12, true) }) (v := ?_) rfl (by kernel_rfl) (by kernel_rfl) (by kernel_rfl) (fun _ _ _ h => h) (Or.inl ⟨by rfl, ?_⟩) (by assumption) ?_; rotate_left; (· (intro wz hSw; (try dsimp only at hSw); go_simp; try with_reducible rfl)))
                  simp only [Act.put, List.setIfInBounds_toArray, List.set_cons_zero, List.set_cons_succ]
                  refine wpAnyH_ready (rs := [18]) (by kernel_rfl) (by simp) ?_
                  refine AllReadyH.cons (o := { dst := some 111, op := Op.load 3 (Operand.tmp 110), type := 3, pos := "outright.go:174", after := #[{ on := 17, ground := Ground.data }, { on := 12, ground := Ground.guard }], guard := some (12, true) }) rfl (fun K hK => ?_) ?_
                  · go_simp
                    refine hK.out _ _ ?_ (fun hHeld2 => ?_)
                    · (try dsimp only); (first | with_reducible exact hs2 | go_keep)
                    clear hK K
                    try simp only [Act.put, List.setIfInBounds_toArray, List.set_cons_zero, List.set_cons_succ]
                    first | (refine wpAnyH_take (i := 19) (oi := { dst := some 112, op := Op.indexAddr 30 (Operand.tmp 107) (Operand.tmp 111), type := 0, pos := "outright.go:174", after := #[{ on := 14, ground := Ground.data }, { on := 18, ground := Ground.data }, { on := 12, ground := Ground.guard }], guard := some (12, true) }) (v := undef) rfl (by kernel_rfl) (by kernel_rfl) (by kernel_rfl) (fun _ _ _ h => h) (Or.inr ⟨by rfl, rfl⟩) (by assumption) ?_) | (refine wpAnyH_take (i := 19) (oi := { dst := some 112, op := Op.indexAddr 30 (Operand.tmp 107) (Operand.tmp 111), type := 0, pos := "outright.go:174", after := #[{ on := 14, ground := Ground.data }, { on := 18, ground := Ground.data }, { on := 12, ground := Ground.guard }], guard := some (12, true) }) (v := ?_) rfl (by kernel_rfl) (by kernel_rfl) (by kernel_rfl) (fun _ _ _ h => h) (Or.inl ⟨by rfl, ?_⟩) (by assumption) ?_; rotate_left; (· (intro wz hSw; (try dsimp only at hSw); go_simp; try with_reducible rfl)))
                    simp only [Act.put, List.setIfInBounds_toArray, List.set_cons_zero, List.set_cons_succ]
                    first | (refine wpAnyH_take (i := 20) (oi := { dst := some 113, op := Op.fieldAddr 34 (Operand.tmp 112) 2, type := 0, pos := "outright.go:174", after := #[{ on := 19, ground := Ground.data }, { on := 12, ground := Ground.guard }], guard := some (12, true) }) (v := undef) rfl (by kernel_rfl) (by kernel_rfl) (by kernel_rfl) (fun _ _ _ h => h) (Or.inr ⟨by rfl, rfl⟩) (by assumption) ?_) | (refine wpAnyH_take (i := 20) (oi := { dst := some 113, op := Op.fieldAddr 34 (Operand.tmp 112) 2, type := 0, pos := "outright.go:174", after := #[{ on := 19, ground := Ground.data }, { on := 12, ground := Ground.guard }], guard := some (12, true) }) (v := ?_) rfl (by kernel_rfl) (by kernel_rfl) (by kernel_rfl) (fun _ _ _ h => h) (Or.inl ⟨by rfl, ?_⟩) (by assumption) ?_; rotate_left; (· (intro wz hSw; (try dsimp only at hSw); go_simp; try with_reducible rfl)))
                    simp only [Act.put, List.setIfInBounds_toArray, List.set_cons_zero, List.set_cons_succ]
                    first | (refine wpAnyH_take (i := 21) (oi := { dst := some 114, op := Op.load 3 (Operand.tmp 113), type := 3, pos := "outright.go:174", after := #[{ on := 20, ground := Ground.data }, { on := 12, ground := Ground.guard }], guard := some (12, true) }) (v := undef) rfl (by kernel_rfl) (by kernel_rfl) (by kernel_rfl) (fun _ _ _ h => h) (Or.inr ⟨by rfl, rfl⟩) (by assumption) ?_) | (refine wpAnyH_take (i := 21) (oi := { dst := some 114, op := Op.load 3 (Operand.tmp 113), type := 3, pos := "outright.go:174", after := #[{ on := 20, ground := Ground.data }, { on := 12, ground := Ground.guard }], guard := some (12, true) }) (v := ?_) rfl (by kernel_rfl) (by kernel_rfl) (by kernel_rfl) (fun _ _ _ h => h) (Or.inl ⟨by rfl, ?_⟩) (by assumption) ?_; rotate_left; (· (intro wz hSw; (try dsimp only at hSw); go_simp; try with_reducible rfl)))
                    simp only [Act.put, List.setIfInBounds_toArray, List.set_cons_zero, List.set_cons_succ]
                    first | (refine wpAnyH_take (i := 23) (oi := { dst := some 116, op := Op.binOp BinOp.eql 3 (Operand.tmp 114) (Operand.tmp 115) 3, type := 4, pos := "outright.go:174", after := #[{ on := 21, ground := Ground.data }, { on := 22, ground := Ground.data }, { on := 12, ground := Ground.guard }], guard := some (12, true) }) (v := undef) rfl (by kernel_rfl) (by kernel_rfl) (by kernel_rfl) (fun _ _ _ h => h) (Or.inr ⟨by rfl, rfl⟩) (by assumption) ?_) | (refine wpAnyH_take (i := 23) (oi := { dst := some 116, op := Op.binOp BinOp.eql 3 (Operand.tmp 114) (Operand.tmp 115) 3, type := 4, pos := "outright.go:174", after := #[{ on := 21, ground := Ground.data }, { on := 22, ground := Ground.data }, { on := 12, ground := Ground.guard }], guard := some (12, true) }) (v := ?_) rfl (by kernel_rfl) (by kernel_rfl) (by kernel_rfl) (fun _ _ _ h => h) (Or.inl ⟨by rfl, ?_⟩) (by assumption) ?_; rotate_left; (· (intro wz hSw; (try dsimp only at hSw); go_simp; try with_reducible rfl)))
                    simp only [Act.put, List.setIfInBounds_toArray, List.set_cons_zero, List.set_cons_succ]
                    refine wpAnyH_take (i := 24) (oi := { dst := some 117, op := Op.pick (Operand.tmp 105) (Operand.tmp 116) (Operand.const (Value.bool false)), type := 4, pos := "outright.go:174", after := #[{ on := 12, ground := Ground.data }, { on := 23, ground := Ground.data }], guard := none }) (v := ?_) rfl (by kernel_rfl) (by kernel_rfl) (by kernel_rfl) (fun _ _ _ h => h) (Or.inl ⟨by rfl, ?_⟩) (by assumption) ?_
                    rotate_left
                    · (intro wz hSw; (try dsimp only at hSw); go_simp; try with_reducible rfl)
                    simp only [Act.put, List.setIfInBounds_toArray, List.set_cons_zero, List.set_cons_succ]
                    refine wpAnyH_ready (rs := [25]) (by kernel_rfl) (by simp) ?_
                    refine AllReadyH.cons (o := { dst := some 118, op := Op.call { callee := Callee.value (Operand.func 27), args := #[Operand.tmp 93, Operand.tmp 94, Operand.tmp 117], argTypes := #[67, 32, 4] }, type := 0, pos := "outright.go:174", after := #[{ on := 0, ground := Ground.data }, { on := 1, ground := Ground.data }, { on := 24, ground := Ground.data }, { on := 12, ground := Ground.chain }], guard := none }) rfl (fun K hK => ?_) ?_
                    · go_simp
                      refine hst.mono ?_
                      rintro _ w11 ⟨rfl, hwk11, hk11⟩
                      have hs2 : w11.cell? ⟨B + 1, 0, none⟩ = some (.int .i64 f.params) ∧ w11.cell? ⟨B + 1, 1, none⟩ = some (.int .i64 f.regs) ∧ w11.cell? ⟨B + 1, 2, none⟩ = some (.int .i64 f.slots) ∧ w11.cell? ⟨B + 1, 3, none⟩ = some (.slice (some ⟨bI, oI, none⟩) m cc) ∧ w11.cell? ⟨bI, oI + u * 5, none⟩ = some (.int .i64 x.kind) ∧ w11.cell? ⟨bI, oI + u * 5 + 2, none⟩ = some (.int .i64 x.b) := ⟨hk11.cell F0 HN.out.1, hk11.cell F1 HN.out.1, hk11.cell F2 HN.out.1, hk11.cell F3 HN.out.1, hk11.cell y0 HN.out.2, hk11.cell y2 HN.out.2⟩
                      refine hK.out _ _ ?_ (fun hHeld2 => ?_)
                      · (try dsimp only); (first | with_reducible exact hs2 | go_keep)
                      clear hK K
                      try simp only [Act.put, List.setIfInBounds_toArray, List.set_cons_zero, List.set_cons_succ]
                      refine wpAnyH_done (by kernel_rfl) ?_ _
                      go_wp2_with fail
                      go_meet
                      exact ⟨hwk11, (Keeps.drew (· = X) wc).trans hk11 (fun _ e _ => e)⟩
                    exact AllReadyH.nil
                  exact AllReadyH.nil
                exact AllReadyH.nil
            · have k4 : (x.kind == 4) = false := by simpa using hk4
              have htv : tv = false := by rw [HT.out.2.2.1]; simp [hk4]
              subst htv
              clear hk4
              refine wp_region_held_drew (S := (fun w' => w'.cell? ⟨B + 1, 0, none⟩ = some (.int .i64 f.params) ∧ w'.cell? ⟨B + 1, 1, none⟩ = some (.int .i64 f.regs) ∧ w'.cell? ⟨B + 1, 2, none⟩ = some (.int .i64 f.slots) ∧ w'.cell? ⟨B + 1, 3, none⟩ = some (.slice (some ⟨bI, oI, none⟩) m cc) ∧ w'.cell? ⟨bI, oI + u * 5, none⟩ = some (.int .i64 x.kind) ∧ w'.cell? ⟨bI, oI + u * 5 + 2, none⟩ = some (.int .i64 x.b))) (by kernel_rfl) ?_ (fun hHeld => ?_)
              · (try dsimp only); (first | with_reducible exact hs2 | go_keep)
              refine wpAnyH_take (i := 0) (oi := { dst := some 93, op := Op.move (Operand.tmp 13), type := 67, pos := "outright.go:174", after := #[], guard := none }) (v := ?_) rfl (by kernel_rfl) (by kernel_rfl) (by kernel_rfl) (fun _ _ _ h => h) (Or.inl ⟨by rfl, ?_⟩) (by assumption) ?_
              rotate_left
              · (intro wz hSw; (try dsimp only at hSw); go_simp; try with_reducible rfl)
              simp only [Act.put, List.setIfInBounds_toArray, List.set_cons_zero, List.set_cons_succ]
              refine wpAnyH_take (i := 1) (oi := { dst := some 94, op := Op.load 32 (Operand.tmp 7), type := 32, pos := "outright.go:174", after := #[], guard := none }) (v := ?_) rfl (by kernel_rfl) (by kernel_rfl) (by kernel_rfl) (fun _ _ _ h => h) (Or.inl ⟨by rfl, ?_⟩) (by assumption) ?_
              rotate_left
              · (intro wz hSw; (try dsimp only at hSw); go_simp; try with_reducible rfl)
              simp only [Act.put, List.setIfInBounds_toArray, List.set_cons_zero, List.set_cons_succ]
              refine wpAnyH_take (i := 2) (oi := { dst := some 95, op := Op.fieldAddr 32 (Operand.tmp 7) 3, type := 0, pos := "outright.go:174", after := #[], guard := none }) (v := ?_) rfl (by kernel_rfl) (by kernel_rfl) (by kernel_rfl) (fun _ _ _ h => h) (Or.inl ⟨by rfl, ?_⟩) (by assumption) ?_
              rotate_left
              · (intro wz hSw; (try dsimp only at hSw); go_simp; try with_reducible rfl)
              simp only [Act.put, List.setIfInBounds_toArray, List.set_cons_zero, List.set_cons_succ]
              refine wpAnyH_take (i := 3) (oi := { dst := some 96, op := Op.load 30 (Operand.tmp 95), type := 30, pos := "outright.go:174", after := #[{ on := 2, ground := Ground.data }], guard := none }) (v := ?_) rfl (by kernel_rfl) (by kernel_rfl) (by kernel_rfl) (fun _ _ _ h => h) (Or.inl ⟨by rfl, ?_⟩) (by assumption) ?_
              rotate_left
              · (intro wz hSw; (try dsimp only at hSw); go_simp; try with_reducible rfl)
              simp only [Act.put, List.setIfInBounds_toArray, List.set_cons_zero, List.set_cons_succ]
              refine wpAnyH_take (i := 4) (oi := { dst := some 97, op := Op.move (Operand.tmp 13), type := 67, pos := "outright.go:174", after := #[], guard := none }) (v := ?_) rfl (by kernel_rfl) (by kernel_rfl) (by kernel_rfl) (fun _ _ _ h => h) (Or.inl ⟨by rfl, ?_⟩) (by assumption) ?_
              rotate_left
              · (intro wz hSw; (try dsimp only at hSw); go_simp; try with_reducible rfl)
              simp only [Act.put, List.setIfInBounds_toArray, List.set_cons_zero, List.set_cons_succ]
              refine wpAnyH_take (i := 5) (oi := { dst := some 98, op := Op.nilCheck (Operand.tmp 97), type := 0, pos := "outright.go:174", after := #[{ on := 4, ground := Ground.data }], guard := none }) (v := ?_) rfl (by kernel_rfl) (by kernel_rfl) (by kernel_rfl) (fun _ _ _ h => h) (Or.inl ⟨by rfl, ?_⟩) (by assumption) ?_
              rotate_left
              · (intro wz hSw; (try dsimp only at hSw); go_simp; try with_reducible rfl)
              simp only [Act.put, List.setIfInBounds_toArray, List.set_cons_zero, List.set_cons_succ]
              refine wpAnyH_take (i := 6) (oi := { dst := some 99, op := Op.fieldAddr 70 (Operand.tmp 98) 0, type := 0, pos := "outright.go:174", after := #[{ on := 5, ground := Ground.data }], guard := none }) (v := ?_) rfl (by kernel_rfl) (by kernel_rfl) (by kernel_rfl) (fun _ _ _ h => h) (Or.inl ⟨by rfl, ?_⟩) (by assumption) ?_
              rotate_left
              · (intro wz hSw; (try dsimp only at hSw); go_simp; try with_reducible rfl)
              simp only [Act.put, List.setIfInBounds_toArray, List.set_cons_zero, List.set_cons_succ]
              refine wpAnyH_ready (rs := [7]) (by kernel_rfl) (by simp) ?_
              refine AllReadyH.cons (o := { dst := some 100, op := Op.load 3 (Operand.tmp 99), type := 3, pos := "outright.go:174", after := #[{ on := 6, ground := Ground.data }], guard := none }) rfl (fun K hK => ?_) ?_
              · go_simp
                refine hK.out _ _ ?_ (fun hHeld2 => ?_)
                · (try dsimp only); (first | with_reducible exact hs2 | go_keep)
                clear hK K
                try simp only [Act.put, List.setIfInBounds_toArray, List.set_cons_zero, List.set_cons_succ]
                refine wpAnyH_take (i := 8) (oi := { dst := some 101, op := Op.indexAddr 30 (Operand.tmp 96) (Operand.tmp 100), type := 0, pos := "outright.go:174", after := #[{ on := 3, ground := Ground.data }, { on := 7, ground := Ground.data }], guard := none }) (v := ?_) rfl (by kernel_rfl) (by kernel_rfl) (by kernel_rfl) (fun _ _ _ h => h) (Or.inl ⟨by rfl, ?_⟩) (by assumption) ?_
                rotate_left
                · (intro wz hSw; (try dsimp only at hSw); go_simp; try with_reducible rfl)
                simp only [Act.put, List.setIfInBounds_toArray, List.set_cons_zero, List.set_cons_succ]
                refine wpAnyH_take (i := 9) (oi := { dst := some 102, op := Op.fieldAddr 34 (Operand.tmp 101) 0, type := 0, pos := "outright.go:174", after := #[{ on := 8, ground := Ground.data }], guard := none }) (v := ?_) rfl (by kernel_rfl) (by kernel_rfl) (by kernel_rfl) (fun _ _ _ h => h) (Or.inl ⟨by rfl, ?_⟩) (by assumption) ?_
                rotate_left
                · (intro wz hSw; (try dsimp only at hSw); go_simp; try with_reducible rfl)
                simp only [Act.put, List.setIfInBounds_toArray, List.set_cons_zero, List.set_cons_succ]
                refine wpAnyH_take (i := 10) (oi := { dst := some 103, op := Op.load 3 (Operand.tmp 102), type := 3, pos := "outright.go:174", after := #[{ on := 9, ground := Ground.data }], guard := none }) (v := ?_) rfl (by kernel_rfl) (by kernel_rfl) (by kernel_rfl) (fun _ _ _ h => h) (Or.inl ⟨by rfl, ?_⟩) (by assumption) ?_
                rotate_left
                · (intro wz hSw; (try dsimp only at hSw); go_simp; try with_reducible rfl)
                simp only [Act.put, List.setIfInBounds_toArray, List.set_cons_zero, List.set_cons_succ]
                refine wpAnyH_take (i := 11) (oi := { dst := some 104, op := Op.binOp BinOp.eql 3 (Operand.tmp 103) (Operand.const (Value.int IntKind.i64 4)) 3, type := 4, pos := "outright.go:174", after := #[{ on := 10, ground := Ground.data }], guard := none }) (v := ?_) rfl (by kernel_rfl) (by kernel_rfl) (by kernel_rfl) (fun _ _ _ h => h) (Or.inl ⟨by rfl, ?_⟩) (by assumption) ?_
                rotate_left
                · (intro wz hSw; (try dsimp only at hSw); go_simp; try with_reducible rfl)
                simp only [Act.put, List.setIfInBounds_toArray, List.set_cons_zero, List.set_cons_succ]
                refine wpAnyH_take (i := 12) (oi := { dst := some 105, op := Op.move (Operand.tmp 104), type := 4, pos := "outright.go:174", after := #[{ on := 11, ground := Ground.data }], guard := none }) (v := ?_) rfl (by kernel_rfl) (by kernel_rfl) (by kernel_rfl) (fun _ _ _ h => h) (Or.inl ⟨by rfl, ?_⟩) (by assumption) ?_
                rotate_left
                · (intro wz hSw; (try dsimp only at hSw); go_simp; try with_reducible rfl)
                simp only [Act.put, List.setIfInBounds_toArray, List.set_cons_zero, List.set_cons_succ]
                first | (refine wpAnyH_take (i := 13) (oi := { dst := some 106, op := Op.fieldAddr 32 (Operand.tmp 7) 3, type := 0, pos := "outright.go:174", after := #[{ on := 12, ground := Ground.guard }], guard := some (12, true) }) (v := undef) rfl (by kernel_rfl) (by kernel_rfl) (by kernel_rfl) (fun _ _ _ h => h) (Or.inr ⟨by rfl, rfl⟩) (by assumption) ?_) | (refine wpAnyH_take (i := 13) (oi := { dst := some 106, op := Op.fieldAddr 32 (Operand.tmp 7) 3, type := 0, pos := "outright.go:174", after := #[{ on := 12, ground := Ground.guard }], guard := some (12, true) }) (v := ?_) rfl (by kernel_rfl) (by kernel_rfl) (by kernel_rfl) (fun _ _ _ h => h) (Or.inl ⟨by rfl, ?_⟩) (by assumption) ?_; rotate_left; (· (intro wz hSw; (try dsimp only at hSw); go_simp; try with_reducible rfl)))
                simp only [Act.put, List.setIfInBounds_toArray, List.set_cons_zero, List.set_cons_succ]
                first | (refine wpAnyH_take (i := 14) (oi := { dst := some 107, op := Op.load 30 (Operand.tmp 106), type := 30, pos := "outright.go:174", after := #[{ on := 13, ground := Ground.data }, { on := 12, ground := Ground.guard }], guard := some (12, true) }) (v := undef) rfl (by kernel_rfl) (by kernel_rfl) (by kernel_rfl) (fun _ _ _ h => h) (Or.inr ⟨by rfl, rfl⟩) (by assumption) ?_) | (refine wpAnyH_take (i := 14) (oi := { dst := some 107, op := Op.load 30 (Operand.tmp 106), type := 30, pos := "outright.go:174", after := #[{ on := 13, ground := Ground.data }, { on := 12, ground := Ground.guard }], guard := some (12, true) }) (v := ?_) rfl (by kernel_rfl) (by kernel_rfl) (by kernel_rfl) (fun _ _ _ h => h) (Or.inl ⟨by rfl, ?_⟩) (by assumption) ?_; rotate_left; (· (intro wz hSw; (try dsimp only at hSw); go_simp; try with_reducible rfl)))
                simp only [Act.put, List.setIfInBounds_toArray, List.set_cons_zero, List.set_cons_succ]
                first | (refine wpAnyH_take (i := 15) (oi := { dst := some 108, op := Op.move (Operand.tmp 13), type := 67, pos := "outright.go:174", after := #[{ on := 12, ground := Ground.guard }], guard := some (12, true) }) (v := undef) rfl (by kernel_rfl) (by kernel_rfl) (by kernel_rfl) (fun _ _ _ h => h) (Or.inr ⟨by rfl, rfl⟩) (by assumption) ?_) | (refine wpAnyH_take (i := 15) (oi := { dst := some 108, op := Op.move (Operand.tmp 13), type := 67, pos := "outright.go:174", after := #[{ on := 12, ground := Ground.guard }], guard := some (12, true) }) (v := ?_) rfl (by kernel_rfl) (by kernel_rfl) (by kernel_rfl) (fun _ _ _ h => h) (Or.inl ⟨by rfl, ?_⟩) (by assumption) ?_; rotate_left; (· (intro wz hSw; (try dsimp only at hSw); go_simp; try with_reducible rfl)))
                simp only [Act.put, List.setIfInBounds_toArray, List.set_cons_zero, List.set_cons_succ]
                first | (refine wpAnyH_take (i := 16) (oi := { dst := some 109, op := Op.nilCheck (Operand.tmp 108), type := 0, pos := "outright.go:174", after := #[{ on := 15, ground := Ground.data }, { on := 12, ground := Ground.guard }], guard := some (12, true) }) (v := undef) rfl (by kernel_rfl) (by kernel_rfl) (by kernel_rfl) (fun _ _ _ h => h) (Or.inr ⟨by rfl, rfl⟩) (by assumption) ?_) | (refine wpAnyH_take (i := 16) (oi := { dst := some 109, op := Op.nilCheck (Operand.tmp 108), type := 0, pos := "outright.go:174", after := #[{ on := 15, ground := Ground.data }, { on := 12, ground := Ground.guard }], guard := some (12, true) }) (v := ?_) rfl (by kernel_rfl) (by kernel_rfl) (by kernel_rfl) (fun _ _ _ h => h) (Or.inl ⟨by rfl, ?_⟩) (by assumption) ?_; rotate_left; (· (intro wz hSw; (try dsimp only at hSw); go_simp; try with_reducible rfl)))
                simp only [Act.put, List.setIfInBounds_toArray, List.set_cons_zero, List.set_cons_succ]
                first | (refine wpAnyH_take (i := 17) (oi := { dst := some 110, op := Op.fieldAddr 70 (Operand.tmp 109) 0, type := 0, pos := "outright.go:174", after := #[{ on := 16, ground := Ground.data }, { on := 12, ground := Ground.guard }], guard := some (12, true) }) (v := undef) rfl (by kernel_rfl) (by kernel_rfl) (by kernel_rfl) (fun _ _ _ h => h) (Or.inr ⟨by rfl, rfl⟩) (by assumption) ?_) | (refine wpAnyH_take (i := 17) (oi := { dst := some 110, op := Op.fieldAddr 70 (Operand.tmp 109) 0, type := 0, pos := "outright.go:174", after := #[{ on := 16, ground := Ground.data }, { on := 12, ground := Ground.guard }], guard := some (12, true) }) (v := ?_) rfl (by kernel_rfl) (by kernel_rfl) (by kernel_rfl) (fun _ _ _ h => h) (Or.inl ⟨by rfl, ?_⟩) (by assumption) ?_; rotate_left; (· (intro wz hSw; (try dsimp only at hSw); go_simp; try with_reducible rfl)))
                simp only [Act.put, List.setIfInBounds_toArray, List.set_cons_zero, List.set_cons_succ]
                first | (refine wpAnyH_take (i := 22) (oi := { dst := some 115, op := Op.move (Operand.tmp 15), type := 3, pos := "outright.go:174", after := #[{ on := 12, ground := Ground.guard }], guard := some (12, true) }) (v := undef) rfl (by kernel_rfl) (by kernel_rfl) (by kernel_rfl) (fun _ _ _ h => h) (Or.inr ⟨by rfl, rfl⟩) (by assumption) ?_) | (refine wpAnyH_take (i := 22) (oi := { dst := some 115, op := Op.move (Operand.tmp 15), type := 3, pos := "outright.go:174", after := #[{ on := 12, ground := Ground.guard }], guard := some (12, true) }) (v := ?_) rfl (by kernel_rfl) (by kernel_rfl) (by kernel_rfl) (fun _ _ _ h => h) (Or.inl ⟨by rfl, ?_⟩) (by assumption) ?_; rotate_left; (· (intro wz hSw; (try dsimp only at hSw); go_simp; try with_reducible rfl)))
                simp only [Act.put, List.setIfInBounds_toArray, List.set_cons_zero, List.set_cons_succ]
                refine wpAnyH_ready (rs := [18]) (by kernel_rfl) (by simp) ?_
                refine AllReadyH.cons (o := { dst := some 111, op := Op.load 3 (Operand.tmp 110), type := 3, pos := "outright.go:174", after := #[{ on := 17, ground := Ground.data }, { on := 12, ground := Ground.guard }], guard := some (12, true) }) rfl (fun K hK => ?_) ?_
                · go_simp
                  refine hK.out _ _ ?_ (fun hHeld2 => ?_)
                  · (try dsimp only); (first | with_reducible exact hs2 | go_keep)
                  clear hK K
                  try simp only [Act.put, List.setIfInBounds_toArray, List.set_cons_zero, List.set_cons_succ]
                  first | (refine wpAnyH_take (i := 19) (oi := { dst := some 112, op := Op.indexAddr 30 (Operand.tmp 107) (Operand.tmp 111), type := 0, pos := "outright.go:174", after := #[{ on := 14, ground := Ground.data }, { on := 18, ground := Ground.data }, { on := 12, ground := Ground.guard }], guard := some (12, true) }) (v := undef) rfl (by kernel_rfl) (by kernel_rfl) (by kernel_rfl) (fun _ _ _ h => h) (Or.inr ⟨by rfl, rfl⟩) (by assumption) ?_) | (refine wpAnyH_take (i := 19) (oi := { dst := some 112, op := Op.indexAddr 30 (Operand.tmp 107) (Operand.tmp 111), type := 0, pos := "outright.go:174", after := #[{ on := 14, ground := Ground.data }, { on := 18, ground := Ground.data }, { on := 12, ground := Ground.guard }], guard := some (12, true) }) (v := ?_) rfl (by kernel_rfl) (by kernel_rfl) (by kernel_rfl) (fun _ _ _ h => h) (Or.inl ⟨by rfl, ?_⟩) (by assumption) ?_; rotate_left; (· (intro wz hSw; (try dsimp only at hSw); go_simp; try with_reducible rfl)))
                  simp only [Act.put, List.setIfInBounds_toArray, List.set_cons_zero, List.set_cons_succ]
                  first | (refine wpAnyH_take (i := 20) (oi := { dst := some 113, op := Op.fieldAddr 34 (Operand.tmp 112) 2, type := 0, pos := "outright.go:174", after := #[{ on := 19, ground := Ground.data }, { on := 12, ground := Ground.guard }], guard := some (12, true) }) (v := undef) rfl (by kernel_rfl) (by kernel_rfl) (by kernel_rfl) (fun _ _ _ h => h) (Or.inr ⟨by rfl, rfl⟩) (by assumption) ?_) | (refine wpAnyH_take (i := 20) (oi := { dst := some 113, op := Op.fieldAddr 34 (Operand.tmp 112) 2, type := 0, pos := "outright.go:174", after := #[{ on := 19, ground := Ground.data }, { on := 12, ground := Ground.guard }], guard := some (12, true) }) (v := ?_) rfl (by kernel_rfl) (by kernel_rfl) (by kernel_rfl) (fun _ _ _ h => h) (Or.inl ⟨by rfl, ?_⟩) (by assumption) ?_; rotate_left; (· (intro wz hSw; (try dsimp only at hSw); go_simp; try with_reducible rfl)))
                  simp only [Act.put, List.setIfInBounds_toArray, List.set_cons_zero, List.set_cons_succ]
                  first | (refine wpAnyH_take (i := 21) (oi := { dst := some 114, op := Op.load 3 (Operand.tmp 113), type := 3, pos := "outright.go:174", after := #[{ on := 20, ground := Ground.data }, { on := 12, ground := Ground.guard }], guard := some (12, true) }) (v := undef) rfl (by kernel_rfl) (by kernel_rfl) (by kernel_rfl) (fun _ _ _ h => h) (Or.inr ⟨by rfl, rfl⟩) (by assumption) ?_) | (refine wpAnyH_take (i := 21) (oi := { dst := some 114, op := Op.load 3 (Operand.tmp 113), type := 3, pos := "outright.go:174", after := #[{ on := 20, ground := Ground.data }, { on := 12, ground := Ground.guard }], guard := some (12, true) }) (v := ?_) rfl (by kernel_rfl) (by kernel_rfl) (by kernel_rfl) (fun _ _ _ h => h) (Or.inl ⟨by rfl, ?_⟩) (by assumption) ?_; rotate_left; (· (intro wz hSw; (try dsimp only at hSw); go_simp; try with_reducible rfl)))
                  simp only [Act.put, List.setIfInBounds_toArray, List.set_cons_zero, List.set_cons_succ]
                  first | (refine wpAnyH_take (i := 23) (oi := { dst := some 116, op := Op.binOp BinOp.eql 3 (Operand.tmp 114) (Operand.tmp 115) 3, type := 4, pos := "outright.go:174", after := #[{ on := 21, ground := Ground.data }, { on := 22, ground := Ground.data }, { on := 12, ground := Ground.guard }], guard := some (12, true) }) (v := undef) rfl (by kernel_rfl) (by kernel_rfl) (by kernel_rfl) (fun _ _ _ h => h) (Or.inr ⟨by rfl, rfl⟩) (by assumption) ?_) | (refine wpAnyH_take (i := 23) (oi := { dst := some 116, op := Op.binOp BinOp.eql 3 (Operand.tmp 114) (Operand.tmp 115) 3, type := 4, pos := "outright.go:174", after := #[{ on := 21, ground := Ground.data }, { on := 22, ground := Ground.data }, { on := 12, ground := Ground.guard }], guard := some (12, true) }) (v := ?_) rfl (by kernel_rfl) (by kernel_rfl) (by kernel_rfl) (fun _ _ _ h => h) (Or.inl ⟨by rfl, ?_⟩) (by assumption) ?_; rotate_left; (· (intro wz hSw; (try dsimp only at hSw); go_simp; try with_reducible rfl)))
                  simp only [Act.put, List.setIfInBounds_toArray, List.set_cons_zero, List.set_cons_succ]
                  refine wpAnyH_take (i := 24) (oi := { dst := some 117, op := Op.pick (Operand.tmp 105) (Operand.tmp 116) (Operand.const (Value.bool false)), type := 4, pos := "outright.go:174", after := #[{ on := 12, ground := Ground.data }, { on := 23, ground := Ground.data }], guard := none }) (v := ?_) rfl (by kernel_rfl) (by kernel_rfl) (by kernel_rfl) (fun _ _ _ h => h) (Or.inl ⟨by rfl, ?_⟩) (by assumption) ?_
                  rotate_left
                  · (intro wz hSw; (try dsimp only at hSw); go_simp; try with_reducible rfl)
                  simp only [Act.put, List.setIfInBounds_toArray, List.set_cons_zero, List.set_cons_succ]
                  refine wpAnyH_ready (rs := [25]) (by kernel_rfl) (by simp) ?_
                  refine AllReadyH.cons (o := { dst := some 118, op := Op.call { callee := Callee.value (Operand.func 27), args := #[Operand.tmp 93, Operand.tmp 94, Operand.tmp 117], argTypes := #[67, 32, 4] }, type := 0, pos := "outright.go:174", after := #[{ on := 0, ground := Ground.data }, { on := 1, ground := Ground.data }, { on := 24, ground := Ground.data }, { on := 12, ground := Ground.chain }], guard := none }) rfl (fun K hK => ?_) ?_
                  · go_simp
                    refine hst.mono ?_
                    rintro _ w11 ⟨rfl, hwk11, hk11⟩
                    have hs2 : w11.cell? ⟨B + 1, 0, none⟩ = some (.int .i64 f.params) ∧ w11.cell? ⟨B + 1, 1, none⟩ = some (.int .i64 f.regs) ∧ w11.cell? ⟨B + 1, 2, none⟩ = some (.int .i64 f.slots) ∧ w11.cell? ⟨B + 1, 3, none⟩ = some (.slice (some ⟨bI, oI, none⟩) m cc) ∧ w11.cell? ⟨bI, oI + u * 5, none⟩ = some (.int .i64 x.kind) ∧ w11.cell? ⟨bI, oI + u * 5 + 2, none⟩ = some (.int .i64 x.b) := ⟨hk11.cell F0 HN.out.1, hk11.cell F1 HN.out.1, hk11.cell F2 HN.out.1, hk11.cell F3 HN.out.1, hk11.cell y0 HN.out.2, hk11.cell y2 HN.out.2⟩
                    refine hK.out _ _ ?_ (fun hHeld2 => ?_)
                    · (try dsimp only); (first | with_reducible exact hs2 | go_keep)
                    clear hK K
                    try simp only [Act.put, List.setIfInBounds_toArray, List.set_cons_zero, List.set_cons_succ]
                    refine wpAnyH_done (by kernel_rfl) ?_ _
                    go_wp2_with fail
                    go_meet
                    exact ⟨hwk11, (Keeps.drew (· = X) wc).trans hk11 (fun _ e _ => e)⟩
                  exact AllReadyH.nil
                exact AllReadyH.nil
              exact AllReadyH.nil
          case rest =>
            obtain ⟨hwk, hkx⟩ := hcut
            have xx0 := hwk.c0
            have nF : ¬ B + 1 = X := by have := H6.out.2.2.2.2; omega
            have nB : ¬ B = X := by have := H6.out.2.2.2.2; omega
            have HU : Hid (IsWk wc X v (stepSl x sl) false ∧ wc.heap[B + 1]? = some (.cells #[.int .i64 f.params, .int .i64 f.regs, .int .i64 f.slots, .slice (some ⟨bI, oI, none⟩) m cc] 32 (0, 0)) ∧ wc.heap[B]? = some (.cells #[.slice a n c] 24 (0, 0)) ∧ Keeps None w wc) := ⟨hwk, blk_kept HT.out.2.2.2.1 hkx nF, blk_kept HT.out.2.2.2.2 hkx nB, HT.out.2.1.trans hkx (fun i e hi => by have := H6.out.2.2.2.2; have := HA.out.2.2.2.2.2.2.2.2.2.2.2.2.2.1; omega)⟩
            clear hwk hkx hst X0 F0 F1 F2 F3 y0 y2 nF nB
            go_wp2_with fail
            have hal := alongP_step (by have := HA.out.2.2.2.2.2.2.1; have := HA.out.2.2.2.2.2.2.2.1; omega) HR.out.2.2.2.2.2.2.2.2.2.1 HR.out.2.2.1 (by simpa using HR.out.2.2.2.2.2.2.2.2.1) HR.out.2.2.2.2.2.2.2.1
            exact ⟨⟨k + 1, (v, r2), stepSl x sl, by omega, by simp, HR.out.2.2.2.2.2.2.1, HU.out.1, hal, HU.out.2.1, HU.out.2.2.1, HU.out.2.2.2⟩, by simp [intOf]; omega⟩
      · have hkm : k = M := by omega
        subst hkm
        have hlast := hQ.last
        rw [hM, Nat.add_sub_cancel, hQk] at hlast
        have e1 := Option.some.inj hlast
        injection e1 with e1 e2
        obtain rfl : u = t := by omega
        have hmet := hal.met
        simp only at hmet
        rw [e2] at hmet
        have x1 := hwk.at (k := s) (by omega)
        obtain ⟨xv, hxv⟩ : ∃ xv, xv = sl.getD s 0 := ⟨_, rfl⟩
        rw [← hxv] at x1 hmet
        have hbt := bits_any xv
        rw [hmet] at hbt
        have i1 : ¬ ((k : Int) + 1 < (k : Int) + 1) := by omega
        have i2 : (s : Int) < 8 := by omega
        have HK : Hid (Keeps None w wr) := hkp
        clear hkp hQk hwk hal hfb hb hlast hmet hxv e1 e2 hS hC hG hm hcf hpar hs hs8 hr0 hr1 hQ hM hP hBw hok hkl
        go_wp2_with (go_at_call 15; refine (hbt _).mono ?_; rintro _ w9 ⟨rfl, hw9⟩; have hw9' := hw9.symm; subst hw9')
        go_ret
        exact ⟨rfl, HK.out⟩
end Go.Proofs.YtahoodfdcpgikaaDoor
