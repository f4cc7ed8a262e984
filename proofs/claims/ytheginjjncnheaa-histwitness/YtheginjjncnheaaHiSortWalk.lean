import Derived.Test.YtheginjjncnheaaHiSorted
import Derived.Deep.DeepCutAuto
import Derived.Deep.RegionLaw
/-! The walk of 'sorted'. -/
namespace Go.Proofs.Ytheginjjncnheaa
set_option linter.unusedVariables false
set_option maxRecDepth 20000
open Go.RowKit Go.HeapKit

theorem two_new (w : World) (o1 o2 : Obj) : ((w.alloc o1).alloc o2).heap[w.heap.size]? = some o1 := by
  rw [Below.heap_alloc _ _ _ (by simp)]
  exact blk_new _ _ _ rfl
def set4 (w : World) (r : Nat) (v0 v1 v2 v3 : Value) : World := (((w.setCell ⟨r, 0, none⟩ v0).setCell ⟨r, 1, none⟩ v1).setCell ⟨r, 2, none⟩ v2).setCell ⟨r, 3, none⟩ v3
theorem set4_blk {w : World} {r : Nat} {t : TypeId} {a b c d : Value} (h : w.heap[r]? = some (.cells #[a, b, c, d] t (0, 0))) (v0 v1 v2 v3 : Value) : (set4 w r v0 v1 v2 v3).heap[r]? = some (.cells #[v0, v1, v2, v3] t (0, 0)) := by
  unfold set4
  rw [blk_set (blk_set (blk_set (blk_set h v0) v1) v2) v3]
  rfl
theorem set4_keeps (w : World) (r : Nat) (v0 v1 v2 v3 : Value) : Keeps (· = r) w (set4 w r v0 v1 v2 v3) := keeps_one (keeps_one (keeps_one (keeps_one (Keeps.refl _ w) _) _) _) _
theorem sort_err {w w2 : World} {l : List Cl} {m : Int} {r : Nat} {E : Int} (hE : badE l m = E) (h0 : E ≠ 0) (hk : Keeps None w w2) (hr : w.heap.size ≤ r) (v0 v1 v2 v3 : Value) : SortPost w l m (.returned (.tuple #[.agg #[.slice none 0 0, .slice none 0 0, .slice none 0 0, .slice none 0 0], .int .i64 E])) (set4 w2 r v0 v1 v2 v3) :=
  ⟨fun _ => .slice none 0 0, by rw [hE], hk.trans (set4_keeps w2 r v0 v1 v2 v3) (fun i e hi => by omega), fun i _ => ⟨none, 0, 0, rfl⟩, fun e => absurd (hE.symm.trans e) h0⟩
set_option maxHeartbeats 8000000 in
set_option maxRecDepth 20000 in
theorem sorted_in (a : Option Addr) (n c : Nat) (l : List Cl) (m : Nat) (w : World) (hS : Seen w a n l) (h40 : n ≤ 40) (hm1 : 1 ≤ m) (hm2 : m ≤ 4096) :
    Calls Try.prog 19 #[.slice a n c, .int .i64 m] w (SortPost w l m) := by
  have HL : Hid (n = l.length) := hS.len
  have HS : Hid (Seen w a n l) := hS
  have hE : badE l m = histE l := by
    unfold badE; rw [if_neg (by have := hS.len; omega), if_pos (by omega)]
  have HE : Hid (badE l m = histE l) := hE
  clear hE
  have i0 : ¬ (40 : Int) < (n : Int) := by omega
  have hmf := mostFits_ok m
  have dm : decide (1 ≤ (m : Int) ∧ (m : Int) ≤ 4096) = true := decide_eq_true (by omega)
  rw [dm] at hmf
  clear hS dm
  obtain ⟨r, hr⟩ : ∃ r, r = w.heap.size := ⟨_, rfl⟩
  have HG : Hid (r = w.heap.size) := hr
  go_enter Try.func19, Try.ntmps19
  go_wp2_with fail
  refine (hmf _).mono ?_
  rintro e w1 ⟨rfl, hw1⟩
  have hw2 := hw1.symm
  subst hw2
  clear hw1 hmf
  go_wp2_with fail
  rw [← hr]
  clear hr
  go_loopw [7, 8, 9, 22] (fun _ _ _ i wr => ∃ k : Nat, k ≤ n ∧ i = .int .i64 k ∧ (∀ q, q < k → okB l q = true) ∧ (∃ vs : Nat → Value, wr.heap[r + 1]? = some (.cells #[vs 0, vs 1, vs 2, vs 3] 53 (0, 0)) ∧ Made wr w.heap.size vs l k) ∧ wr.heap[r]? = some (.cells #[.slice none 0 0, .slice none 0 0, .slice none 0 0, .slice none 0 0] 53 (0, 0)) ∧ Keeps None w wr) (fun _ _ _ i _ => n - (intOf i).toNat)
  case atStart =>
    refine ⟨0, Nat.zero_le _, rfl, fun q h => by omega, ⟨fun _ => .slice none 0 0, blk_new _ _ _ (by simp [HG.out]), ⟨fun i hi => row_nil _ _ _ _, fun i j _ _ _ b e => by simp [Value.ownBlock] at e⟩⟩, ?_, ((Keeps.refl None w).andAlloc _).andAlloc _⟩
    rw [HG.out]
    exact two_new _ _ _
  case round =>
    obtain ⟨k, hk, rfl, hok, ⟨vs, hblk, hmade⟩, hres, hkp⟩ := hrel
    have hrw : r < wr.heap.size ∧ r + 1 < wr.heap.size := ⟨(Array.getElem?_eq_some_iff.1 hres).1, (Array.getElem?_eq_some_iff.1 hblk).1⟩
    by_cases hkn : k < n
    · obtain ⟨bl, ol, rfl, hb, hc⟩ := (HS.out.more hkp).ex (by omega)
      obtain ⟨x, hx⟩ : ∃ x, l[k]? = some x := ⟨l[k]'(by have := HL.out; omega), by simp⟩
      obtain ⟨u0, u1, u2, u3, u4, u5, u6⟩ := hc k x hx
      have i1 : (k : Int) < (n : Int) := by omega
      have hft := fits_ok x (wr.alloc (.cells #[.int .i64 x.who, .int .i64 x.kind, .int .i64 x.arg, .int .i64 x.beg, .int .i64 x.fin, .int .i64 x.code, .int .i64 x.v] 49))
      have HX : Hid (l[k]? = some x ∧ ∀ q, q < k → okB l q = true) := ⟨hx, hok⟩
      have HM : Hid (wr.heap[r + 1]? = some (.cells #[vs 0, vs 1, vs 2, vs 3] 53 (0, 0)) ∧ Made wr w.heap.size vs l k ∧ wr.heap[r]? = some (.cells #[.slice none 0 0, .slice none 0 0, .slice none 0 0, .slice none 0 0] 53 (0, 0)) ∧ Keeps None w wr) := ⟨hblk, hmade, hres, hkp⟩
      have HB : Hid (okB l k = false → badE l m = 40) := fun h => by rw [HE.out]; exact histE_bad (histB_not (k := k) (by have := HL.out; omega) h)
      clear hc hx hok hblk hmade hres hkp
      obtain ⟨cb, hcb⟩ : ∃ cb, cb = wr.heap.size := ⟨_, rfl⟩
      have HCB : Hid (cb = wr.heap.size) := hcb
      cases hfx : fitsB x with
      | false =>
        rw [hfx] at hft
        have HF : Hid (badE l m = 40) := HB.out (by rw [okB_of HX.out.1, hfx]; rfl)
        clear hfx HB hcb
        go_wp2_with fail
        refine hft.mono ?_
        rintro e w2 ⟨rfl, hk2⟩
        have hk3 : Keeps None wr w2 := (Keeps.alloc None wr _).trans hk2 (fun _ f _ => f)
        have hr2 : w2.heap[r]? = some (.cells #[.slice none 0 0, .slice none 0 0, .slice none 0 0, .slice none 0 0] 53 (0, 0)) := (hk3.block r hrw.1 (fun f => f)).trans HM.out.2.2.1
        have HX2 : Hid (Keeps None w w2) := HM.out.2.2.2.trans hk3 (fun _ f _ => f)
        have e0 : w2.cell? ⟨r, 0, none⟩ = some (.slice none 0 0) := by rw [blk_cell hr2]; rfl
        have e1 : w2.cell? ⟨r, 1, none⟩ = some (.slice none 0 0) := by rw [blk_cell hr2]; rfl
        have e2 : w2.cell? ⟨r, 2, none⟩ = some (.slice none 0 0) := by rw [blk_cell hr2]; rfl
        have e3 : w2.cell? ⟨r, 3, none⟩ = some (.slice none 0 0) := by rw [blk_cell hr2]; rfl
        have q0 := blk_free hr2 0
        have q1 := blk_free hr2 1
        have q2 := blk_free hr2 2
        have q3 := blk_free hr2 3
        have HR2 : Hid (((((w2.setCell ⟨r, 0, none⟩ (.slice none 0 0)).setCell ⟨r, 1, none⟩ (.slice none 0 0)).setCell ⟨r, 2, none⟩ (.slice none 0 0)).setCell ⟨r, 3, none⟩ (.slice none 0 0)).heap[r]? = some (.cells #[.slice none 0 0, .slice none 0 0, .slice none 0 0, .slice none 0 0] 53 (0, 0))) := set4_blk hr2 _ _ _ _
        have hrr : w.heap.size ≤ r := by have := HG.out; omega
        clear hr2 hft hk2 hk3 HM
        go_wp2
        refine bodyPost_ret (results_cell_tmp (q := 4) (t := 5) (ty := 53) rfl rfl (run_loadVar_row _ r 53 53 _ _ _ HR2.out Try.underlying53 rfl (by kernel_rfl))) rfl ?_
        exact sort_err HF.out (by decide) HX2.out hrr _ _ _ _
      | true =>
        obtain ⟨-, -, -, -, hw0, hw3, -⟩ := fits_ended hfx
        obtain ⟨i, hi⟩ : ∃ i : Nat, x.who = i := ⟨x.who.toNat, by omega⟩
        have hi4 : i < 4 := by omega
        rw [hfx] at hft
        have HFX : Hid (fitsB x = true) := hfx
        clear hfx hw0 hw3
        obtain ⟨xw, kd, ar, bg, fn, cd, vv⟩ := x
        simp only at hi
        subst hi
        simp only [] at *
        have hca : #[vs 0, vs 1, vs 2, vs 3][i]? = some (vs i) := rows_at vs hi4
        obtain ⟨sa, sc, hvi⟩ := row_shape (HM.out.2.1.own i hi4)
        obtain ⟨ni, hni⟩ : ∃ ni, ni = (mineL l k i).length := ⟨_, rfl⟩
        rw [← hni] at hvi
        have HNI : Hid (ni = (mineL l k i).length ∧ vs i = .slice sa ni sc) := ⟨hni, hvi⟩
        have hnk : ni ≤ k := by rw [hni]; exact mineL_length _ _ _
        have HCA : Hid (#[vs 0, vs 1, vs 2, vs 3][i]? = some (.slice sa ni sc)) := hvi ▸ hca
        clear hca hvi hni
        go_wp2_with fail
        refine hft.mono ?_
        rintro e w2 ⟨rfl, hk2⟩
        have hcb2 : w2.heap[cb]? = some (.cells #[.int .i64 (i : Int), .int .i64 kd, .int .i64 ar, .int .i64 bg, .int .i64 fn, .int .i64 cd, .int .i64 vv] 49 (0, 0)) := (hk2.block cb (by rw [hcb]; simp) (fun f => f)).trans (blk_new _ _ _ hcb.symm)
        have hk3 : Keeps None wr w2 := (Keeps.alloc None wr _).trans hk2 (fun _ f _ => f)
        have d0 : w2.cell? ⟨cb, 0, none⟩ = some (.int .i64 (i : Int)) := by rw [blk_cell hcb2]; rfl
        have d1 : w2.cell? ⟨cb, 1, none⟩ = some (.int .i64 kd) := by rw [blk_cell hcb2]; rfl
        have d2 : w2.cell? ⟨cb, 2, none⟩ = some (.int .i64 ar) := by rw [blk_cell hcb2]; rfl
        have d3 : w2.cell? ⟨cb, 3, none⟩ = some (.int .i64 bg) := by rw [blk_cell hcb2]; rfl
        have d4 : w2.cell? ⟨cb, 4, none⟩ = some (.int .i64 fn) := by rw [blk_cell hcb2]; rfl
        have d5 : w2.cell? ⟨cb, 5, none⟩ = some (.int .i64 cd) := by rw [blk_cell hcb2]; rfl
        have d6 : w2.cell? ⟨cb, 6, none⟩ = some (.int .i64 vv) := by rw [blk_cell hcb2]; rfl
        have hblk2 : w2.heap[r + 1]? = some (.cells #[vs 0, vs 1, vs 2, vs 3] 53 (0, 0)) := (hk3.block (r + 1) hrw.2 (fun f => f)).trans HM.out.1
        have p0 : w2.cell? ⟨r + 1, i, none⟩ = some (.slice sa ni sc) := by rw [blk_cell hblk2]; exact HCA.out
        have HM2 : Hid (w2.heap[r + 1]? = some (.cells #[vs 0, vs 1, vs 2, vs 3] 53 (0, 0)) ∧ Made w2 w.heap.size vs l k ∧ w2.heap[r]? = some (.cells #[.slice none 0 0, .slice none 0 0, .slice none 0 0, .slice none 0 0] 53 (0, 0)) ∧ Keeps None w w2 ∧ w2.heap[cb]? = some (.cells #[.int .i64 (i : Int), .int .i64 kd, .int .i64 ar, .int .i64 bg, .int .i64 fn, .int .i64 cd, .int .i64 vv] 49 (0, 0))) :=
          ⟨hblk2, HM.out.2.1.more hk3, (hk3.block r hrw.1 (fun f => f)).trans HM.out.2.2.1, HM.out.2.2.2.trans hk3 (fun _ f _ => f), hcb2⟩
        have j1 : (i : Int) < 4 := by omega
        rw [← hcb]
        clear hft hk2 hk3 hcb2 hblk2 HM hcb u0 u1 u2 u3 u4 u5 u6
        obtain ⟨B, hB⟩ : ∃ B, B = !(l.take k).all (fun y => behind y ⟨(i : Int), kd, ar, bg, fn, cd, vv⟩) := ⟨_, rfl⟩
        have HBB : Hid (B = !(l.take k).all (fun y => behind y ⟨(i : Int), kd, ar, bg, fn, cd, vv⟩)) := hB
        clear hB
        go_upto_region 12 with fail
        go_cut [51] (fun s51 wx => s51 = .bool B ∧ Keeps None w2 wx)
        case first =>
          rcases mine_last l i k with ⟨h1, h2⟩ | ⟨r', q, h1, h2, h3, h4⟩
          · have hn0 : ni = 0 := by rw [HNI.out.1, h1]; rfl
            subst hn0
            have hB0 : B = false := by rw [HBB.out, behind_none (by have := HL.out; omega) rfl h2]; rfl
            have HB0 : Hid (B = false) := hB0
            clear hB0 h1 h2
            go_quiet (fail)
            go_wp2_with fail
            go_meet
            exact ⟨by rw [HB0.out], keeps_drewN _⟩
          · obtain ⟨nr, hnr⟩ : ∃ nr, nr = r'.length := ⟨_, rfl⟩
            have hn1 : ni = nr + 1 := by rw [HNI.out.1, h1, hnr]; simp
            obtain ⟨y, hy⟩ : ∃ y, l[q]? = some y := ⟨l[q]'(by have := HL.out; omega), by simp⟩
            have hqn : q < n := by omega
            have hBa : B = !aheadB y ⟨(i : Int), kd, ar, bg, fn, cd, vv⟩ := by
              rw [HBB.out, behind_last (by have := HL.out; omega) rfl HX.out.2 h2 hy (by rw [clAt_of hy] at h3; exact h3) h4]
            have hown := HM2.out.2.1.own i hi4
            rw [← HNI.out.1, HNI.out.2] at hown
            obtain ⟨go, e', -, -, -, o0, -⟩ := vals_elem (k := nr) (u := .int .i64 (q : Int)) hown (by rw [h1, hnr]; simp)
            subst e'
            obtain ⟨bl', ol', e', -, hcl⟩ := (HS.out.more HM2.out.2.2.2.1).ex (by omega)
            injection e' with e'
            injection e' with e1 e2
            subst e1 e2
            obtain ⟨v0, v1, v2, v3, v4, v5, v6⟩ := hcl q y hy
            have hah := ahead_ok y ⟨(i : Int), kd, ar, bg, fn, cd, vv⟩
            simp only [] at hah
            have i5 : (q : Int) < (n : Int) := by omega
            have w1 : IntKind.i64.wrap ((ni : Int) - 1) = (nr : Int) := by rw [IntKind.wrap_i64]; omega
            have z1 : (0 : Int) ≤ (nr : Int) := by omega
            have z2 : (nr : Int) < (ni : Int) := by omega
            have z4 : 0 < ni := by omega
            have z5 : decide (0 < ni) = true := decide_eq_true z4
            clear hn1
            clear h1 h3 h4 hnr hy hown hcl
            cases hA : aheadB y ⟨(i : Int), kd, ar, bg, fn, cd, vv⟩ with
            | true =>
              rw [hA] at hah hBa
              have HB0 : Hid (B = false) := hBa
              clear hA hBa
              go_region_held3 (fun w' => w'.cell? ⟨bl, ol + q * 7, none⟩ = some (.int .i64 y.who) ∧ w'.cell? ⟨bl, ol + q * 7 + 1, none⟩ = some (.int .i64 y.kind) ∧ w'.cell? ⟨bl, ol + q * 7 + 2, none⟩ = some (.int .i64 y.arg) ∧ w'.cell? ⟨bl, ol + q * 7 + 3, none⟩ = some (.int .i64 y.beg) ∧ w'.cell? ⟨bl, ol + q * 7 + 4, none⟩ = some (.int .i64 y.fin) ∧ w'.cell? ⟨bl, ol + q * 7 + 5, none⟩ = some (.int .i64 y.code) ∧ w'.cell? ⟨bl, ol + q * 7 + 6, none⟩ = some (.int .i64 y.v) ∧ w'.cell? ⟨cb, 0, none⟩ = some (.int .i64 (i : Int)) ∧ w'.cell? ⟨cb, 1, none⟩ = some (.int .i64 kd) ∧ w'.cell? ⟨cb, 2, none⟩ = some (.int .i64 ar) ∧ w'.cell? ⟨cb, 3, none⟩ = some (.int .i64 bg) ∧ w'.cell? ⟨cb, 4, none⟩ = some (.int .i64 fn) ∧ w'.cell? ⟨cb, 5, none⟩ = some (.int .i64 cd) ∧ w'.cell? ⟨cb, 6, none⟩ = some (.int .i64 vv) ∧ w'.cell? ⟨go, nr, none⟩ = some (.int .i64 (q : Int))) (first | exact hs2 | go_keep) (first
                | (go_at_call 35; refine (hah _).mono ?_; rintro e w3 ⟨rfl, hk4'⟩; have hk4 : Keeps None w2 w3 := (Keeps.drew None w2).trans hk4' (fun _ f _ => f); have hs2 : w3.cell? ⟨bl, ol + q * 7, none⟩ = some (.int .i64 y.who) ∧ w3.cell? ⟨bl, ol + q * 7 + 1, none⟩ = some (.int .i64 y.kind) ∧ w3.cell? ⟨bl, ol + q * 7 + 2, none⟩ = some (.int .i64 y.arg) ∧ w3.cell? ⟨bl, ol + q * 7 + 3, none⟩ = some (.int .i64 y.beg) ∧ w3.cell? ⟨bl, ol + q * 7 + 4, none⟩ = some (.int .i64 y.fin) ∧ w3.cell? ⟨bl, ol + q * 7 + 5, none⟩ = some (.int .i64 y.code) ∧ w3.cell? ⟨bl, ol + q * 7 + 6, none⟩ = some (.int .i64 y.v) ∧ w3.cell? ⟨cb, 0, none⟩ = some (.int .i64 (i : Int)) ∧ w3.cell? ⟨cb, 1, none⟩ = some (.int .i64 kd) ∧ w3.cell? ⟨cb, 2, none⟩ = some (.int .i64 ar) ∧ w3.cell? ⟨cb, 3, none⟩ = some (.int .i64 bg) ∧ w3.cell? ⟨cb, 4, none⟩ = some (.int .i64 fn) ∧ w3.cell? ⟨cb, 5, none⟩ = some (.int .i64 cd) ∧ w3.cell? ⟨cb, 6, none⟩ = some (.int .i64 vv) ∧ w3.cell? ⟨go, nr, none⟩ = some (.int .i64 (q : Int)) := ⟨hk4.cell v0 (fun f => f), hk4.cell v1 (fun f => f), hk4.cell v2 (fun f => f), hk4.cell v3 (fun f => f), hk4.cell v4 (fun f => f), hk4.cell v5 (fun f => f), hk4.cell v6 (fun f => f), hk4.cell d0 (fun f => f), hk4.cell d1 (fun f => f), hk4.cell d2 (fun f => f), hk4.cell d3 (fun f => f), hk4.cell d4 (fun f => f), hk4.cell d5 (fun f => f), hk4.cell d6 (fun f => f), hk4.cell o0 (fun f => f)⟩))
              all_goals (go_wp2_with fail; go_meet)
              all_goals exact ⟨by rw [HB0.out], hk4⟩
            | false =>
              rw [hA] at hah hBa
              have HB0 : Hid (B = true) := hBa
              clear hA hBa
              go_region_held3 (fun w' => w'.cell? ⟨bl, ol + q * 7, none⟩ = some (.int .i64 y.who) ∧ w'.cell? ⟨bl, ol + q * 7 + 1, none⟩ = some (.int .i64 y.kind) ∧ w'.cell? ⟨bl, ol + q * 7 + 2, none⟩ = some (.int .i64 y.arg) ∧ w'.cell? ⟨bl, ol + q * 7 + 3, none⟩ = some (.int .i64 y.beg) ∧ w'.cell? ⟨bl, ol + q * 7 + 4, none⟩ = some (.int .i64 y.fin) ∧ w'.cell? ⟨bl, ol + q * 7 + 5, none⟩ = some (.int .i64 y.code) ∧ w'.cell? ⟨bl, ol + q * 7 + 6, none⟩ = some (.int .i64 y.v) ∧ w'.cell? ⟨cb, 0, none⟩ = some (.int .i64 (i : Int)) ∧ w'.cell? ⟨cb, 1, none⟩ = some (.int .i64 kd) ∧ w'.cell? ⟨cb, 2, none⟩ = some (.int .i64 ar) ∧ w'.cell? ⟨cb, 3, none⟩ = some (.int .i64 bg) ∧ w'.cell? ⟨cb, 4, none⟩ = some (.int .i64 fn) ∧ w'.cell? ⟨cb, 5, none⟩ = some (.int .i64 cd) ∧ w'.cell? ⟨cb, 6, none⟩ = some (.int .i64 vv) ∧ w'.cell? ⟨go, nr, none⟩ = some (.int .i64 (q : Int))) (first | exact hs2 | go_keep) (first
                | (go_at_call 35; refine (hah _).mono ?_; rintro e w3 ⟨rfl, hk4'⟩; have hk4 : Keeps None w2 w3 := (Keeps.drew None w2).trans hk4' (fun _ f _ => f); have hs2 : w3.cell? ⟨bl, ol + q * 7, none⟩ = some (.int .i64 y.who) ∧ w3.cell? ⟨bl, ol + q * 7 + 1, none⟩ = some (.int .i64 y.kind) ∧ w3.cell? ⟨bl, ol + q * 7 + 2, none⟩ = some (.int .i64 y.arg) ∧ w3.cell? ⟨bl, ol + q * 7 + 3, none⟩ = some (.int .i64 y.beg) ∧ w3.cell? ⟨bl, ol + q * 7 + 4, none⟩ = some (.int .i64 y.fin) ∧ w3.cell? ⟨bl, ol + q * 7 + 5, none⟩ = some (.int .i64 y.code) ∧ w3.cell? ⟨bl, ol + q * 7 + 6, none⟩ = some (.int .i64 y.v) ∧ w3.cell? ⟨cb, 0, none⟩ = some (.int .i64 (i : Int)) ∧ w3.cell? ⟨cb, 1, none⟩ = some (.int .i64 kd) ∧ w3.cell? ⟨cb, 2, none⟩ = some (.int .i64 ar) ∧ w3.cell? ⟨cb, 3, none⟩ = some (.int .i64 bg) ∧ w3.cell? ⟨cb, 4, none⟩ = some (.int .i64 fn) ∧ w3.cell? ⟨cb, 5, none⟩ = some (.int .i64 cd) ∧ w3.cell? ⟨cb, 6, none⟩ = some (.int .i64 vv) ∧ w3.cell? ⟨go, nr, none⟩ = some (.int .i64 (q : Int)) := ⟨hk4.cell v0 (fun f => f), hk4.cell v1 (fun f => f), hk4.cell v2 (fun f => f), hk4.cell v3 (fun f => f), hk4.cell v4 (fun f => f), hk4.cell v5 (fun f => f), hk4.cell v6 (fun f => f), hk4.cell d0 (fun f => f), hk4.cell d1 (fun f => f), hk4.cell d2 (fun f => f), hk4.cell d3 (fun f => f), hk4.cell d4 (fun f => f), hk4.cell d5 (fun f => f), hk4.cell d6 (fun f => f), hk4.cell o0 (fun f => f)⟩))
              all_goals (go_wp2_with fail; go_meet)
              all_goals exact ⟨by rw [HB0.out], hk4⟩
        case rest =>
          obtain ⟨rfl, hkx⟩ := hcut
          cases B with
          | true =>
            have HF : Hid (badE l m = 40) := HB.out (by
              rw [okB_of HX.out.1]
              have := HBB.out
              cases e : (l.take k).all (fun y => behind y ⟨(i : Int), kd, ar, bg, fn, cd, vv⟩) with
              | true => rw [e] at this; cases this
              | false => simp)
            have key : ∀ wx, Keeps None w2 wx → (wx.cell? ⟨r, 0, none⟩ = some (.slice none 0 0) ∧ wx.cell? ⟨r, 1, none⟩ = some (.slice none 0 0) ∧ wx.cell? ⟨r, 2, none⟩ = some (.slice none 0 0) ∧ wx.cell? ⟨r, 3, none⟩ = some (.slice none 0 0)) ∧ (wx.frozen? ⟨r, 0, none⟩ = false ∧ wx.frozen? ⟨r, 1, none⟩ = false ∧ wx.frozen? ⟨r, 2, none⟩ = false ∧ wx.frozen? ⟨r, 3, none⟩ = false) ∧ Hid (((((wx.setCell ⟨r, 0, none⟩ (.slice none 0 0)).setCell ⟨r, 1, none⟩ (.slice none 0 0)).setCell ⟨r, 2, none⟩ (.slice none 0 0)).setCell ⟨r, 3, none⟩ (.slice none 0 0)).heap[r]? = some (.cells #[.slice none 0 0, .slice none 0 0, .slice none 0 0, .slice none 0 0] 53 (0, 0))) ∧ Hid (Keeps None w wx) := by
              intro wx hkx
              have hr2 : wx.heap[r]? = some (.cells #[.slice none 0 0, .slice none 0 0, .slice none 0 0, .slice none 0 0] 53 (0, 0)) := (hkx.block r (Array.getElem?_eq_some_iff.1 HM2.out.2.2.1).1 (fun f => f)).trans HM2.out.2.2.1
              exact ⟨⟨by rw [blk_cell hr2]; rfl, by rw [blk_cell hr2]; rfl, by rw [blk_cell hr2]; rfl, by rw [blk_cell hr2]; rfl⟩, ⟨blk_free hr2 0, blk_free hr2 1, blk_free hr2 2, blk_free hr2 3⟩, set4_blk hr2 _ _ _ _, HM2.out.2.2.2.1.trans hkx (fun _ f _ => f)⟩
            obtain ⟨⟨e0, e1, e2, e3⟩, ⟨q0, q1, q2, q3⟩, HR2, HX2⟩ := key _ hkx
            have hrr : w.heap.size ≤ r := by have := HG.out; omega
            clear key hkx HM2 HB HBB d0 d1 d2 d3 d4 d5 d6 p0
            go_wp2
            refine bodyPost_ret (results_cell_tmp (q := 4) (t := 5) (ty := 53) rfl rfl (run_loadVar_row _ r 53 53 _ _ _ HR2.out Try.underlying53 rfl (by kernel_rfl))) rfl ?_
            exact sort_err HF.out (by decide) HX2.out hrr _ _ _ _
          | false =>
            have HOK : Hid (∀ q, q < k + 1 → okB l q = true) := by
              intro q hq
              by_cases hqk : q < k
              · exact HX.out.2 q hqk
              · obtain rfl : q = k := by omega
                rw [okB_of HX.out.1, HFX.out]
                have := HBB.out
                cases e : (l.take q).all (fun y => behind y ⟨(i : Int), kd, ar, bg, fn, cd, vv⟩) with
                | true => rfl
                | false => rw [e] at this; cases this
            have key : ∀ wx, Keeps None w2 wx → wx.cell? ⟨cb, 0, none⟩ = some (.int .i64 (i : Int)) ∧ (wx.alloc (.cells #[.int .i64 (k : Int)] 3)).cell? ⟨cb, 0, none⟩ = some (.int .i64 (i : Int)) ∧ ∃ g cp w4, (Builtin.append_ #[32, 32] 32 #[.slice sa ni sc, .slice (some ⟨wx.heap.size, 0, none⟩) 1 1]).run Try.prog (wx.drew.alloc (.cells #[.int .i64 (k : Int)] 3)) = .ok (.slice (some ⟨g, 0, none⟩) (ni + 1) cp) w4 ∧
                w4.cell? ⟨cb, 0, none⟩ = some (.int .i64 (i : Int)) ∧ w4.cell? ⟨r + 1, i, none⟩ = some (.slice sa ni sc) ∧ w4.frozen? ⟨r + 1, i, none⟩ = false ∧
                Hid ((∃ vs : Nat → Value, (w4.setCell ⟨r + 1, i, none⟩ (.slice (some ⟨g, 0, none⟩) (ni + 1) cp)).heap[r + 1]? = some (.cells #[vs 0, vs 1, vs 2, vs 3] 53 (0, 0)) ∧ Made (w4.setCell ⟨r + 1, i, none⟩ (.slice (some ⟨g, 0, none⟩) (ni + 1) cp)) w.heap.size vs l (k + 1)) ∧ (w4.setCell ⟨r + 1, i, none⟩ (.slice (some ⟨g, 0, none⟩) (ni + 1) cp)).heap[r]? = some (.cells #[.slice none 0 0, .slice none 0 0, .slice none 0 0, .slice none 0 0] 53 (0, 0)) ∧ Keeps None w (w4.setCell ⟨r + 1, i, none⟩ (.slice (some ⟨g, 0, none⟩) (ni + 1) cp))) := by
              intro wx hkx
              obtain ⟨hb1, hmd, hr1, hkw, hcb⟩ := HM2.out
              have hD : Keeps None w2 (wx.drew.alloc (.cells #[.int .i64 (k : Int)] 3)) := (hkx.andDrew).andAlloc _
              have hmd1 := hmd.more hD
              have hown := hmd1.own i hi4
              have hap : ∀ b, (vs i).ownBlock = some b → b ≠ r + 1 ∧ b ≠ r ∧ b ≠ cb ∧ w.heap.size ≤ b := by
                intro b e
                refine ⟨fun e2 => ?_, fun e2 => ?_, fun e2 => ?_, row_low (hmd.own i hi4) e⟩
                · subst e2; exact absurd (own_type (hmd.own i hi4) e hb1) (by decide)
                · subst e2; exact absurd (own_type (hmd.own i hi4) e hr1) (by decide)
                · subst e2; exact absurd (own_type (hmd.own i hi4) e hcb) (by decide)
              rw [← HNI.out.1] at hown
              obtain ⟨g, cp, w4, hr, ho, hk4, hm4⟩ := int_more w.heap.size (vs i) (mineL l k i) k ni 32 wx.heap.size (wx.drew.alloc (.cells #[.int .i64 (k : Int)] 3)) HNI.out.1 hown (by have := hkw.size; have := hkx.size; simp; omega) (by omega) (blk_new _ _ _ (by simp))
              have hblk : ∀ b, b < w2.heap.size → (vs i).ownBlock ≠ some b → w4.heap[b]? = w2.heap[b]? := fun b hb hne => (hk4.block b (Nat.lt_of_lt_of_le hb hD.size) hne).trans (hD.block b hb (fun f => f))
              have hcb4 := (hblk cb (Array.getElem?_eq_some_iff.1 hcb).1 (fun e => (hap cb e).2.2.1 rfl)).trans hcb
              have hb4 := (hblk (r + 1) (Array.getElem?_eq_some_iff.1 hb1).1 (fun e => (hap (r + 1) e).1 rfl)).trans hb1
              have hr4 := (hblk r (Array.getElem?_eq_some_iff.1 hr1).1 (fun e => (hap r e).2.1 rfl)).trans hr1
              have hput := hmd1.put (x := ⟨(i : Int), kd, ar, bg, fn, cd, vv⟩) hi4 HX.out.1 rfl (by rw [← HNI.out.1]; exact ho) hk4 (fun b e => by
                rcases hm4 with h | h
                · simp [Value.ownBlock] at e; subst e; exact .inl h
                · simp [Value.ownBlock] at e; subst e; exact .inr h)
              have hKs : Keeps (· = r + 1) w4 (w4.setCell ⟨r + 1, i, none⟩ (.slice (some ⟨g, 0, none⟩) (ni + 1) cp)) := Keeps.setCell (S := (· = r + 1)) w4 (a := ⟨r + 1, i, none⟩) rfl _
              refine ⟨hkx.cell (by rw [blk_cell hcb]; rfl) (fun f => f), (hkx.andAlloc _).cell (by rw [blk_cell hcb]; rfl) (fun f => f), g, cp, w4, by rw [← HNI.out.2]; exact hr, by rw [blk_cell hcb4]; rfl, by rw [blk_cell hb4]; exact HCA.out, blk_free hb4 i, ⟨updV vs i (.slice (some ⟨g, 0, none⟩) (ni + 1) cp), ?_, ?_⟩, ?_, ?_⟩
              · rw [blk_set hb4, rows_set vs hi4]
              · refine hput.kept hKs (fun b hb hc e => ?_)
                obtain ⟨cur, hc⟩ := hc
                subst e
                rw [hb4] at hc
                simp at hc
              · exact (hKs.block r (Array.getElem?_eq_some_iff.1 hr4).1 (by omega)).trans hr4
              · refine ((hkw.trans hD (fun _ f _ => f)).trans hk4 (fun b e hb => ?_)).trans hKs (fun b e hb => ?_)
                · have := (hap b e).2.2.2; omega
                · have := HG.out; omega
            obtain ⟨dx0, dy0, g, cp, w4, hr, dw0, p4, f4, HN⟩ := key _ hkx
            clear key hkx HM2 HB HBB d0 d1 d2 d3 d4 d5 d6 p0 HFX HX HNI HCA
            go_wp2
            go_region_law (refine step_append_run rfl (.tmp 55) (.tmp 57) 32 32 rfl (by simp [Act.eval]) (by simp [Act.eval]) hr ?_)
            all_goals (go_wp2; exact ⟨⟨k + 1, by omega, by go_num, HOK.out, HN.out⟩, by simp [intOf]; omega⟩)
    · have hkn2 : k = n := by omega
      subst hkn2
      have hE0 : badE l m = 0 := by rw [HE.out]; exact histE_ok (histB_all (fun q hq => hok q (by have := HL.out; omega)))
      obtain ⟨a0, c0, v0⟩ := row_shape (hmade.own 0 (by omega))
      obtain ⟨a1, c1, v1⟩ := row_shape (hmade.own 1 (by omega))
      obtain ⟨a2, c2, v2⟩ := row_shape (hmade.own 2 (by omega))
      obtain ⟨a3, c3, v3⟩ := row_shape (hmade.own 3 (by omega))
      have g0 : wr.cell? ⟨r + 1, 0, none⟩ = some (vs 0) := by rw [blk_cell hblk]; rfl
      have g1 : wr.cell? ⟨r + 1, 1, none⟩ = some (vs 1) := by rw [blk_cell hblk]; rfl
      have g2 : wr.cell? ⟨r + 1, 2, none⟩ = some (vs 2) := by rw [blk_cell hblk]; rfl
      have g3 : wr.cell? ⟨r + 1, 3, none⟩ = some (vs 3) := by rw [blk_cell hblk]; rfl
      rw [v0] at g0
      rw [v1] at g1
      rw [v2] at g2
      rw [v3] at g3
      have e0 : wr.cell? ⟨r, 0, none⟩ = some (.slice none 0 0) := by rw [blk_cell hres]; rfl
      have e1 : wr.cell? ⟨r, 1, none⟩ = some (.slice none 0 0) := by rw [blk_cell hres]; rfl
      have e2 : wr.cell? ⟨r, 2, none⟩ = some (.slice none 0 0) := by rw [blk_cell hres]; rfl
      have e3 : wr.cell? ⟨r, 3, none⟩ = some (.slice none 0 0) := by rw [blk_cell hres]; rfl
      have q0 := blk_free hres 0
      have q1 := blk_free hres 1
      have q2 := blk_free hres 2
      have q3 := blk_free hres 3
      have HR2 : Hid ((set4 wr r (.slice a0 (mineL l k 0).length c0) (.slice a1 (mineL l k 1).length c1) (.slice a2 (mineL l k 2).length c2) (.slice a3 (mineL l k 3).length c3)).heap[r]? = some (.cells #[.slice a0 (mineL l k 0).length c0, .slice a1 (mineL l k 1).length c1, .slice a2 (mineL l k 2).length c2, .slice a3 (mineL l k 3).length c3] 53 (0, 0))) := set4_blk hres _ _ _ _
      have HP : Hid (SortPost w l m (.returned (.tuple #[.agg #[.slice a0 (mineL l k 0).length c0, .slice a1 (mineL l k 1).length c1, .slice a2 (mineL l k 2).length c2, .slice a3 (mineL l k 3).length c3], .int .i64 0])) (set4 wr r (.slice a0 (mineL l k 0).length c0) (.slice a1 (mineL l k 1).length c1) (.slice a2 (mineL l k 2).length c2) (.slice a3 (mineL l k 3).length c3))) := by
        refine ⟨vs, by rw [v0, v1, v2, v3, hE0], hkp.trans (set4_keeps wr r _ _ _ _) (fun b e hb => by have := HG.out; omega), fun j hj => ?_, fun _ => ?_⟩
        · obtain ⟨a, c, e⟩ := row_shape (hmade.own j hj)
          exact ⟨a, _, c, e⟩
        · rw [← HL.out]
          refine hmade.kept (set4_keeps wr r _ _ _ _) (fun b hb hc e => ?_)
          obtain ⟨cur, hc⟩ := hc
          subst e
          rw [hres] at hc
          simp at hc
      clear hE0 hmade hblk hres hok hkp v0 v1 v2 v3
      generalize (mineL l k 0).length = n0 at *
      generalize (mineL l k 1).length = n1 at *
      generalize (mineL l k 2).length = n2 at *
      generalize (mineL l k 3).length = n3 at *
      unfold set4 at HR2 HP
      go_wp2
      refine bodyPost_ret (results_cell_tmp (q := 4) (t := 5) (ty := 53) rfl rfl (run_loadVar_row _ r 53 53 _ _ _ HR2.out Try.underlying53 rfl (by kernel_rfl))) rfl ?_
      exact HP.out
theorem sorted_err (a : Option Addr) (n c : Nat) (l : List Cl) (most : Int) (w : World) (hS : Seen w a n l) (hn : (n + 1) * 56 ≤ 140737488355328) (h : 40 < n ∨ ¬ (1 ≤ most ∧ most ≤ 4096)) :
    Calls Try.prog 19 #[.slice a n c, .int .i64 most] w (SortPost w l most) := by
  have hlen := hS.len
  obtain ⟨r, hr⟩ : ∃ r, r = w.heap.size := ⟨_, rfl⟩
  have hr2 : (w.alloc (.cells #[.slice none 0 0, .slice none 0 0, .slice none 0 0, .slice none 0 0] 53)).heap[r]? = some (.cells #[.slice none 0 0, .slice none 0 0, .slice none 0 0, .slice none 0 0] 53 (0, 0)) := blk_new _ _ _ hr.symm
  have key : ∀ E : Int, badE l most = E → E ≠ 0 → SortPost w l most (.returned (.tuple #[.agg #[.slice none 0 0, .slice none 0 0, .slice none 0 0, .slice none 0 0], .int .i64 E])) (w.alloc (.cells #[.slice none 0 0, .slice none 0 0, .slice none 0 0, .slice none 0 0] 53)) := fun E hE h0 =>
    ⟨fun _ => .slice none 0 0, by rw [hE], Keeps.alloc None w _, fun i _ => ⟨none, 0, 0, rfl⟩, fun e => absurd (hE.symm.trans e) h0⟩
  by_cases h40 : 40 < n
  · have hE : badE l most = 2 := by unfold badE; rw [if_pos (by omega)]
    have HP : Hid (SortPost w l most (.returned (.tuple #[.agg #[.slice none 0 0, .slice none 0 0, .slice none 0 0, .slice none 0 0], .int .i64 2])) (w.alloc (.cells #[.slice none 0 0, .slice none 0 0, .slice none 0 0, .slice none 0 0] 53))) := key 2 hE (by decide)
    have HR2 : Hid ((w.alloc (.cells #[.slice none 0 0, .slice none 0 0, .slice none 0 0, .slice none 0 0] 53)).heap[w.heap.size]? = some (.cells #[.slice none 0 0, .slice none 0 0, .slice none 0 0, .slice none 0 0] 53 (0, 0))) := hr ▸ hr2
    have i1 : (40 : Int) < (n : Int) := by omega
    clear hr hr2 key hE hS hlen h
    go_enter Try.func19, Try.ntmps19
    go_wp2
    refine bodyPost_ret (results_cell_tmp (q := 4) (t := 5) (ty := 53) rfl rfl (run_loadVar_row _ w.heap.size 53 53 _ _ _ HR2.out Try.underlying53 rfl (by kernel_rfl))) rfl ?_
    exact HP.out
  · have hm : ¬ (1 ≤ most ∧ most ≤ 4096) := by rcases h with h | h; omega; exact h
    have hE : badE l most = 3 := by unfold badE; rw [if_neg (by omega), if_neg hm]
    have HP : Hid (SortPost w l most (.returned (.tuple #[.agg #[.slice none 0 0, .slice none 0 0, .slice none 0 0, .slice none 0 0], .int .i64 3])) (w.alloc (.cells #[.slice none 0 0, .slice none 0 0, .slice none 0 0, .slice none 0 0] 53))) := key 3 hE (by decide)
    have HR2 : Hid ((w.alloc (.cells #[.slice none 0 0, .slice none 0 0, .slice none 0 0, .slice none 0 0] 53)).heap[w.heap.size]? = some (.cells #[.slice none 0 0, .slice none 0 0, .slice none 0 0, .slice none 0 0] 53 (0, 0))) := hr ▸ hr2
    have i1 : ¬ (40 : Int) < (n : Int) := by omega
    have hmf := mostFits_ok most
    rw [decide_eq_false hm] at hmf
    clear hr hr2 key hE hS hlen h hm
    go_enter Try.func19, Try.ntmps19
    go_wp2_with fail
    refine (hmf _).mono ?_
    rintro e w1 ⟨rfl, hw1⟩
    have hw2 := hw1.symm
    subst hw2
    clear hw1 hmf
    go_wp2
    refine bodyPost_ret (results_cell_tmp (q := 4) (t := 5) (ty := 53) rfl rfl (run_loadVar_row _ w.heap.size 53 53 _ _ _ HR2.out Try.underlying53 rfl (by kernel_rfl))) rfl ?_
    exact HP.out
theorem sorted_ok (a : Option Addr) (n c : Nat) (l : List Cl) (most : Int) (w : World) (hS : Seen w a n l) (hn : (n + 1) * 56 ≤ 140737488355328) :
    Calls Try.prog 19 #[.slice a n c, .int .i64 most] w (SortPost w l most) := by
  by_cases h : 40 < n ∨ ¬ (1 ≤ most ∧ most ≤ 4096)
  · exact sorted_err a n c l most w hS hn h
  · obtain ⟨m, rfl⟩ : ∃ m : Nat, most = m := ⟨most.toNat, by omega⟩
    exact sorted_in a n c l m w hS (by omega) (by omega) (by omega)
end Go.Proofs.Ytheginjjncnheaa
