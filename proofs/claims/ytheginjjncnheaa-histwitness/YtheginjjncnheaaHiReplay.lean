import Derived.Test.YtheginjjncnheaaHiAllowed
import Derived.Test.YtheginjjncnheaaHiComplete
/-! The document: is it an order? -/
namespace Go.Proofs.Ytheginjjncnheaa
set_option linter.unusedVariables false
set_option maxRecDepth 20000
open Go.RowKit Go.HeapKit

theorem make_bools (n : Nat) (w : World) (hn : n ≤ 40) : ∃ M : Array Value, M.toList = List.replicate n (.bool false) ∧ (Instr.makeSlice 89 (.int .i64 n) (.int .i64 n)).run Try.prog w = .ok (.slice (some ⟨w.heap.size, 0, none⟩) n n) (w.alloc (.cells M 4)) := by
  obtain ⟨i0, hi, hz0, hz1, hz2⟩ := info_parts Try.infoBool
  obtain ⟨M, hM, _, hr⟩ := run_make_block (P := Try.prog) (w := w) 89 4 i0 _ 1 1 Try.underlying89 hi hz0 hz1 hz2 n (by omega) (by omega)
  exact ⟨M, by rw [hM, Nat.mul_one]; exact toList_madeCells_one _ _, hr⟩
/-- What the document's replay says. -/
def repB (l : List Cl) (m : Nat) (zs : List Int) : Bool := preB l zs zs.length && timeB l zs zs.length && (runD m l zs).isSome && seenB l zs l.length
def RepPost (w : World) (l : List Cl) (m : Nat) (zs : List Int) (e : Ending) (w' : World) : Prop := ∃ v', e = .returned (.tuple #[v', .bool (repB l m zs)]) ∧ Keeps None w w' ∧ (repB l m zs = true → ∃ st, runD m l zs = some st ∧ Held w' v' st)
theorem rep_false {w w' : World} {l : List Cl} {m : Nat} {zs : List Int} (h : repB l m zs = false) (hk : Keeps None w w') : RepPost w l m zs (.returned (.tuple #[.slice none 0 0, .bool false])) w' :=
  ⟨_, by rw [h], hk, fun e => by rw [h] at e; cases e⟩

set_option maxHeartbeats 8000000 in
theorem replay_ok (a : Option Addr) (n c : Nat) (l : List Cl) (ao : Option Addr) (no co : Nat) (zs : List Int) (m : Nat) (w : World) (hS : Seen w a n l) (hO : SeenI w ao no zs) (h40 : n ≤ 40) (hno : no * 8 ≤ 140737488355328) (hh : histB l = true) (hm : m ≤ 4096) :
    Calls Try.prog 29 #[.slice a n c, .int .i64 m, .slice ao no co] w (RepPost w l m zs) := by
  have HL : Hid (n = l.length ∧ no = zs.length) := ⟨hS.len, hO.len⟩
  have HS : Hid (Seen w a n l) := hS
  have HO : Hid (SeenI w ao no zs) := hO
  have HH : Hid (histB l = true) := hh
  clear hS hO hh
  obtain ⟨M, hM, hmk⟩ := make_bools n w h40
  obtain ⟨g, hg⟩ : ∃ g, g = w.heap.size := ⟨_, rfl⟩
  have HG : Hid (g = w.heap.size) := hg
  have H0 : Hid ((w.alloc (.cells M 4)).ownsRow w.heap.size 4 1 (.slice (some ⟨g, 0, none⟩) n n) n (markL Value.bool n zs 0)) := by
    rw [markL_zero, hg]; exact made_row hM h40
  rw [← hg] at hmk
  clear hM hg
  go_enter Try.func29, Try.ntmps29
  go_wp2_with (first | (at_make; refine wpList_make_run rfl (.tmp 17) (.tmp 17) 89 rfl rfl rfl hmk ?_) | fail)
  go_loopw [8, 10, 11, 12, 13, 14] (fun r i _ _ _ _ wr => ∃ k : Nat, k ≤ no ∧ i = .int .i64 k ∧ preB l zs k = true ∧ timeB l zs k = true ∧ (∃ st, runD m l (zs.take k) = some st ∧ Held wr r st) ∧ (∀ g, r.ownBlock = some g → w.heap.size ≤ g) ∧ wr.ownsRow w.heap.size 4 1 (.slice (some ⟨g, 0, none⟩) n n) n (markL Value.bool n zs k) ∧ Keeps None w wr) (fun _ i _ _ _ _ _ => no - (intOf i).toNat)
  case atStart => exact ⟨0, Nat.zero_le _, rfl, rfl, rfl, ⟨[], rfl, .inl ⟨rfl, rfl⟩⟩, fun g e => by simp [Value.ownBlock] at e, H0.out, Keeps.alloc None w _⟩
  case round =>
    clear H0 hmk
    obtain ⟨k, hk, rfl, hpre, hti, ⟨st, hrun, hheld⟩, hlow, hrow, hkp⟩ := hrel
    obtain ⟨⟨ra, rn, rc⟩, hv⟩ : ∃ t : Option Addr × Nat × Nat, _ = Value.slice t.1 t.2.1 t.2.2 := by obtain ⟨a', c', e, -⟩ := hheld.shape; exact ⟨(a', _, c'), e⟩
    subst hv
    simp only [] at *
    by_cases hkn : k < no
    · obtain ⟨b, off, rfl, hb, hc⟩ := (HO.out.more hkp).ex (by omega)
      obtain ⟨z, hz⟩ : ∃ z, zs[k]? = some z := ⟨zs[k]'(by have := HL.out.2; omega), by simp⟩
      have y0 := hc k z hz
      have i1 : (k : Int) < (no : Int) := by omega
      have HZ : Hid (zs[k]? = some z) := hz
      have HP : Hid (preB l zs k = true ∧ timeB l zs k = true ∧ runD m l (zs.take k) = some st) := ⟨hpre, hti, hrun⟩
      have HK : Hid (Keeps None w wr) := hkp
      have HW : Hid (wr.ownsRow w.heap.size 4 1 (.slice (some ⟨g, 0, none⟩) n n) n (markL Value.bool n zs k) ∧ Held wr (.slice ra rn rc) st ∧ ∀ g, (Value.slice ra rn rc).ownBlock = some g → w.heap.size ≤ g) := ⟨hrow, hheld, hlow⟩
      have HB : Hid (idxB l zs k = false → repB l m zs = false) := fun h => by
        unfold repB
        rw [show preB l zs zs.length = false from range_not (k := k) (by have := HL.out.2; omega) h]; rfl
      clear hc hz hpre hkp hrow hti hrun hheld hlow
      by_cases z0 : z < 0
      · have HF : Hid (repB l m zs = false) := HB.out (by unfold idxB; rw [getD_of HZ.out, decide_eq_false (by omega)]; rfl)
        clear HB HW
        go_wp2
        go_ret2
        exact rep_false HF.out HK.out
      · by_cases zn : (n : Int) ≤ z
        · have HF : Hid (repB l m zs = false) := HB.out (by unfold idxB; rw [getD_of HZ.out, decide_eq_false (by have := HL.out.1; omega)]; rfl)
          clear HB HW
          go_wp2
          go_ret2
          exact rep_false HF.out HK.out
        · obtain ⟨j, rfl⟩ : ∃ j : Nat, z = j := ⟨z.toNat, by omega⟩
          have hjn : j < n := by omega
          obtain ⟨g', e', hbg, hglt, _, x0, -⟩ := vals_elem HW.out.1 (markL_at Value.bool zs k hjn)
          injection e' with e'
          injection e' with e'
          subst e'
          have i3 : (j : Int) < (n : Int) := by omega
          cases hcn : (zs.take k).contains (j : Int) with
          | true =>
            rw [hcn] at x0
            have HF : Hid (repB l m zs = false) := HB.out (by unfold idxB; rw [getD_of HZ.out, hcn]; simp)
            clear HB hcn HW
            go_wp2
            go_ret2
            exact rep_false HF.out HK.out
          | false =>
            rw [hcn] at x0
            have hidx : idxB l zs k = true := by
              unfold idxB
              rw [getD_of HZ.out, hcn, decide_eq_true (by have := HL.out.1; omega)]
              rfl
            obtain ⟨x, hx⟩ : ∃ x, l[j]? = some x := ⟨l[j]'(by have := HL.out.1; omega), by simp⟩
            obtain ⟨bl, ol, rfl, -, -⟩ := HS.out.ex (by omega)
            have HX1 : Hid (l[j]? = some x ∧ idxB l zs k = true) := ⟨hx, hidx⟩
            have HB2 : Hid (tmB l zs k = false → repB l m zs = false) := fun h => by
              unfold repB
              rw [show timeB l zs zs.length = false from range_not (k := k) (by have := HL.out.2; omega) h]; simp
            clear HB hcn hx hidx
            go_wp2_with fail
            go_loopw [12] (fun i wr => ∃ q : Nat, q ≤ k ∧ i = .int .i64 q ∧ (zs.take q).all (fun y => !aheadB x (clAt l y)) = true ∧ (wr.ownsRow w.heap.size 4 1 (.slice (some ⟨g, 0, none⟩) n n) n (markL Value.bool n zs k) ∧ Held wr (.slice ra rn rc) st ∧ ∀ g, (Value.slice ra rn rc).ownBlock = some g → w.heap.size ≤ g) ∧ Keeps None w wr) (fun i _ => k - (intOf i).toNat)
            case atStart => exact ⟨0, Nat.zero_le _, rfl, rfl, HW.out, HK.out⟩
            case round =>
              clear HK y0 x0 HW hbg hglt
              obtain ⟨q, hq, rfl, hall, hW, hkp⟩ := hrel
              by_cases hqk : q < k
              · obtain ⟨b', off', e', -, hc⟩ := (HO.out.more hkp).ex (by omega)
                injection e' with e'
                injection e' with e1 e2
                subst e1 e2
                obtain ⟨bl', ol', e', -, hcl⟩ := (HS.out.more hkp).ex (by omega)
                injection e' with e'
                injection e' with e1 e2
                subst e1 e2
                obtain ⟨z2, hz2⟩ : ∃ z, zs[q]? = some z := ⟨zs[q]'(by have := HL.out.2; omega), by simp⟩
                obtain ⟨j2, rfl, x2, hx2⟩ : ∃ j : Nat, z2 = j ∧ ∃ x, l[j]? = some x := by
                  have hi := range_at hqk HP.out.1
                  unfold idxB at hi
                  rw [getD_of hz2] at hi
                  simp only [Bool.and_eq_true, decide_eq_true_eq] at hi
                  exact ⟨z2.toNat, by omega, l[z2.toNat]'(by omega), by simp⟩
                have hj2n : j2 < n := by have := (List.getElem?_eq_some_iff.1 hx2).1; have := HL.out.1; omega
                have y0 := hc q _ hz2
                obtain ⟨u0, u1, u2, u3, u4, u5, u6⟩ := hcl j x HX1.out.1
                obtain ⟨v0, v1, v2, v3, v4, v5, v6⟩ := hcl j2 x2 hx2
                have i2 : (q : Int) < (k : Int) := by omega
                have i4 : (j2 : Int) < (n : Int) := by omega
                have i5 : (q : Int) < (no : Int) := by omega
                have HK3 : Hid (∀ w2, Keeps None wr w2 → (w2.ownsRow w.heap.size 4 1 (.slice (some ⟨g, 0, none⟩) n n) n (markL Value.bool n zs k) ∧ Held w2 (.slice ra rn rc) st ∧ ∀ g, (Value.slice ra rn rc).ownBlock = some g → w.heap.size ≤ g) ∧ Keeps None w w2) := fun w2 h => ⟨⟨row_kept hW.1 h (fun _ _ f => f), hW.2.1.kept h (fun _ _ f => f), hW.2.2⟩, hkp.trans h (fun _ f _ => f)⟩
                have HA1 : Hid (aheadB x x2 = false → (zs.take (q + 1)).all (fun y => !aheadB x (clAt l y)) = true) := fun h => by
                  rw [take_more hz2, List.all_append, hall, List.all_cons, clAt_of hx2, h]; rfl
                have HA2 : Hid (aheadB x x2 = true → repB l m zs = false) := fun h => HB2.out (by
                  unfold tmB
                  rw [getD_of HZ.out, clAt_of HX1.out.1]
                  cases e : (zs.take k).all (fun y => !aheadB x (clAt l y)) with
                  | false => rfl
                  | true =>
                    have := List.all_eq_true.1 e (j2 : Int) (List.mem_of_getElem? (i := q) (by rw [List.getElem?_take, if_pos hqk]; exact hz2))
                    rw [clAt_of hx2, h] at this
                    cases this)
                have hah := rahead_ok x x2
                rw [ahead_same (hist_fits HH.out HX1.out.1)] at hah
                clear hc hcl hz2 hx2 hall hkp hW
                cases hB : aheadB x x2 with
                | true =>
                  rw [hB] at hah
                  have HF : Hid (repB l m zs = false) := HA2.out hB
                  clear HA1 HA2 hB
                  go_upto_region 12 with fail
                  go_cut [59] (fun s59 wx => s59 = .bool true ∧ Keeps None wr wx)
                  case first =>
                    go_region_held3 (fun w' => w'.cell? ⟨bl, ol + j * 7, none⟩ = some (.int .i64 x.who) ∧ w'.cell? ⟨bl, ol + j * 7 + 1, none⟩ = some (.int .i64 x.kind) ∧ w'.cell? ⟨bl, ol + j * 7 + 2, none⟩ = some (.int .i64 x.arg) ∧ w'.cell? ⟨bl, ol + j * 7 + 3, none⟩ = some (.int .i64 x.beg) ∧ w'.cell? ⟨bl, ol + j * 7 + 4, none⟩ = some (.int .i64 x.fin) ∧ w'.cell? ⟨bl, ol + j * 7 + 5, none⟩ = some (.int .i64 x.code) ∧ w'.cell? ⟨bl, ol + j * 7 + 6, none⟩ = some (.int .i64 x.v) ∧ w'.cell? ⟨bl, ol + j2 * 7, none⟩ = some (.int .i64 x2.who) ∧ w'.cell? ⟨bl, ol + j2 * 7 + 1, none⟩ = some (.int .i64 x2.kind) ∧ w'.cell? ⟨bl, ol + j2 * 7 + 2, none⟩ = some (.int .i64 x2.arg) ∧ w'.cell? ⟨bl, ol + j2 * 7 + 3, none⟩ = some (.int .i64 x2.beg) ∧ w'.cell? ⟨bl, ol + j2 * 7 + 4, none⟩ = some (.int .i64 x2.fin) ∧ w'.cell? ⟨bl, ol + j2 * 7 + 5, none⟩ = some (.int .i64 x2.code) ∧ w'.cell? ⟨bl, ol + j2 * 7 + 6, none⟩ = some (.int .i64 x2.v) ∧ w'.cell? ⟨b, off + q, none⟩ = some (.int .i64 (j2 : Int))) (first | exact hs2 | go_keep) (first
                      | (go_at_call 44; refine (hah _).mono ?_; rintro e w2 ⟨rfl, hk2⟩; have hk3 : Keeps None wr w2 := (Keeps.drew None wr).trans hk2 (fun _ f _ => f); have hs2 : w2.cell? ⟨bl, ol + j * 7, none⟩ = some (.int .i64 x.who) ∧ w2.cell? ⟨bl, ol + j * 7 + 1, none⟩ = some (.int .i64 x.kind) ∧ w2.cell? ⟨bl, ol + j * 7 + 2, none⟩ = some (.int .i64 x.arg) ∧ w2.cell? ⟨bl, ol + j * 7 + 3, none⟩ = some (.int .i64 x.beg) ∧ w2.cell? ⟨bl, ol + j * 7 + 4, none⟩ = some (.int .i64 x.fin) ∧ w2.cell? ⟨bl, ol + j * 7 + 5, none⟩ = some (.int .i64 x.code) ∧ w2.cell? ⟨bl, ol + j * 7 + 6, none⟩ = some (.int .i64 x.v) ∧ w2.cell? ⟨bl, ol + j2 * 7, none⟩ = some (.int .i64 x2.who) ∧ w2.cell? ⟨bl, ol + j2 * 7 + 1, none⟩ = some (.int .i64 x2.kind) ∧ w2.cell? ⟨bl, ol + j2 * 7 + 2, none⟩ = some (.int .i64 x2.arg) ∧ w2.cell? ⟨bl, ol + j2 * 7 + 3, none⟩ = some (.int .i64 x2.beg) ∧ w2.cell? ⟨bl, ol + j2 * 7 + 4, none⟩ = some (.int .i64 x2.fin) ∧ w2.cell? ⟨bl, ol + j2 * 7 + 5, none⟩ = some (.int .i64 x2.code) ∧ w2.cell? ⟨bl, ol + j2 * 7 + 6, none⟩ = some (.int .i64 x2.v) ∧ w2.cell? ⟨b, off + q, none⟩ = some (.int .i64 (j2 : Int)) := ⟨hk3.cell u0 (fun f => f), hk3.cell u1 (fun f => f), hk3.cell u2 (fun f => f), hk3.cell u3 (fun f => f), hk3.cell u4 (fun f => f), hk3.cell u5 (fun f => f), hk3.cell u6 (fun f => f), hk3.cell v0 (fun f => f), hk3.cell v1 (fun f => f), hk3.cell v2 (fun f => f), hk3.cell v3 (fun f => f), hk3.cell v4 (fun f => f), hk3.cell v5 (fun f => f), hk3.cell v6 (fun f => f), hk3.cell y0 (fun f => f)⟩))
                    all_goals (go_wp2_with fail; go_meet)
                    all_goals exact ⟨rfl, hk3⟩
                  case rest =>
                    obtain ⟨rfl, hkx⟩ := hcut
                    have HX := HK3.out _ hkx
                    clear hah hkx HK3 u0 u1 u2 u3 u4 u5 u6 v0 v1 v2 v3 v4 v5 v6 y0
                    go_wp2
                    go_ret2
                    exact rep_false HF.out HX.2
                | false =>
                  rw [hB] at hah
                  have HF : Hid ((zs.take (q + 1)).all (fun y => !aheadB x (clAt l y)) = true) := HA1.out hB
                  clear HA1 HA2 hB
                  go_upto_region 12 with fail
                  go_cut [59] (fun s59 wx => s59 = .bool false ∧ Keeps None wr wx)
                  case first =>
                    go_region_held3 (fun w' => w'.cell? ⟨bl, ol + j * 7, none⟩ = some (.int .i64 x.who) ∧ w'.cell? ⟨bl, ol + j * 7 + 1, none⟩ = some (.int .i64 x.kind) ∧ w'.cell? ⟨bl, ol + j * 7 + 2, none⟩ = some (.int .i64 x.arg) ∧ w'.cell? ⟨bl, ol + j * 7 + 3, none⟩ = some (.int .i64 x.beg) ∧ w'.cell? ⟨bl, ol + j * 7 + 4, none⟩ = some (.int .i64 x.fin) ∧ w'.cell? ⟨bl, ol + j * 7 + 5, none⟩ = some (.int .i64 x.code) ∧ w'.cell? ⟨bl, ol + j * 7 + 6, none⟩ = some (.int .i64 x.v) ∧ w'.cell? ⟨bl, ol + j2 * 7, none⟩ = some (.int .i64 x2.who) ∧ w'.cell? ⟨bl, ol + j2 * 7 + 1, none⟩ = some (.int .i64 x2.kind) ∧ w'.cell? ⟨bl, ol + j2 * 7 + 2, none⟩ = some (.int .i64 x2.arg) ∧ w'.cell? ⟨bl, ol + j2 * 7 + 3, none⟩ = some (.int .i64 x2.beg) ∧ w'.cell? ⟨bl, ol + j2 * 7 + 4, none⟩ = some (.int .i64 x2.fin) ∧ w'.cell? ⟨bl, ol + j2 * 7 + 5, none⟩ = some (.int .i64 x2.code) ∧ w'.cell? ⟨bl, ol + j2 * 7 + 6, none⟩ = some (.int .i64 x2.v) ∧ w'.cell? ⟨b, off + q, none⟩ = some (.int .i64 (j2 : Int))) (first | exact hs2 | go_keep) (first
                      | (go_at_call 44; refine (hah _).mono ?_; rintro e w2 ⟨rfl, hk2⟩; have hk3 : Keeps None wr w2 := (Keeps.drew None wr).trans hk2 (fun _ f _ => f); have hs2 : w2.cell? ⟨bl, ol + j * 7, none⟩ = some (.int .i64 x.who) ∧ w2.cell? ⟨bl, ol + j * 7 + 1, none⟩ = some (.int .i64 x.kind) ∧ w2.cell? ⟨bl, ol + j * 7 + 2, none⟩ = some (.int .i64 x.arg) ∧ w2.cell? ⟨bl, ol + j * 7 + 3, none⟩ = some (.int .i64 x.beg) ∧ w2.cell? ⟨bl, ol + j * 7 + 4, none⟩ = some (.int .i64 x.fin) ∧ w2.cell? ⟨bl, ol + j * 7 + 5, none⟩ = some (.int .i64 x.code) ∧ w2.cell? ⟨bl, ol + j * 7 + 6, none⟩ = some (.int .i64 x.v) ∧ w2.cell? ⟨bl, ol + j2 * 7, none⟩ = some (.int .i64 x2.who) ∧ w2.cell? ⟨bl, ol + j2 * 7 + 1, none⟩ = some (.int .i64 x2.kind) ∧ w2.cell? ⟨bl, ol + j2 * 7 + 2, none⟩ = some (.int .i64 x2.arg) ∧ w2.cell? ⟨bl, ol + j2 * 7 + 3, none⟩ = some (.int .i64 x2.beg) ∧ w2.cell? ⟨bl, ol + j2 * 7 + 4, none⟩ = some (.int .i64 x2.fin) ∧ w2.cell? ⟨bl, ol + j2 * 7 + 5, none⟩ = some (.int .i64 x2.code) ∧ w2.cell? ⟨bl, ol + j2 * 7 + 6, none⟩ = some (.int .i64 x2.v) ∧ w2.cell? ⟨b, off + q, none⟩ = some (.int .i64 (j2 : Int)) := ⟨hk3.cell u0 (fun f => f), hk3.cell u1 (fun f => f), hk3.cell u2 (fun f => f), hk3.cell u3 (fun f => f), hk3.cell u4 (fun f => f), hk3.cell u5 (fun f => f), hk3.cell u6 (fun f => f), hk3.cell v0 (fun f => f), hk3.cell v1 (fun f => f), hk3.cell v2 (fun f => f), hk3.cell v3 (fun f => f), hk3.cell v4 (fun f => f), hk3.cell v5 (fun f => f), hk3.cell v6 (fun f => f), hk3.cell y0 (fun f => f)⟩))
                    all_goals (go_wp2_with fail; go_meet)
                    all_goals exact ⟨rfl, hk3⟩
                  case rest =>
                    obtain ⟨rfl, hkx⟩ := hcut
                    have HX := HK3.out _ hkx
                    clear hah hkx HK3 u0 u1 u2 u3 u4 u5 u6 v0 v1 v2 v3 v4 v5 v6 y0
                    go_wp2
                    go_roundw
                    case rel => exact ⟨q + 1, by omega, by go_num, HF.out, HX⟩
                    case measure => simp [intOf]; omega
              · have hqk2 : q = k := by omega
                subst hqk2
                have htm : tmB l zs q = true := by
                  unfold tmB
                  rw [getD_of HZ.out, clAt_of HX1.out.1]
                  exact hall
                have HT2 : Hid (preB l zs (q + 1) = true ∧ timeB l zs (q + 1) = true) := by
                  refine ⟨?_, ?_⟩
                  · have h1 := HP.out.1
                    unfold preB at h1 ⊢
                    rw [range_more, h1, HX1.out.2]; rfl
                  · have h1 := HP.out.2.1
                    unfold timeB at h1 ⊢
                    rw [range_more, h1, htm]; rfl
                obtain ⟨g', e', -, -, _, x0, hfr⟩ := vals_elem hW.1 (markL_at Value.bool zs q hjn)
                injection e' with e'
                injection e' with e'
                subst e'
                have f0 := hfr j
                have hKs : Keeps (· = g) wr (wr.setCell ⟨g, j, none⟩ (.bool true)) := Keeps.setCell (S := (· = g)) wr (a := ⟨g, j, none⟩) rfl _
                have hW1 : (wr.setCell ⟨g, j, none⟩ (.bool true)).ownsRow w.heap.size 4 1 (.slice (some ⟨g, 0, none⟩) n n) n (markL Value.bool n zs (q + 1)) := by
                  rw [← markL_set Value.bool HZ.out hjn]
                  exact row_set hW.1 j _
                have hH1 : Held (wr.setCell ⟨g, j, none⟩ (.bool true)) (.slice ra rn rc) st := hW.2.1.kept hKs (fun i e e2 => by
                  subst e2
                  obtain ⟨cur, hcur⟩ := hW.2.1.type e
                  exact absurd (own_type hW.1 rfl hcur) (by decide))
                have hkp1 : Keeps None w (wr.setCell ⟨g, j, none⟩ (.bool true)) := hkp.trans hKs (fun i e hi => by have := HG.out; omega)
                obtain ⟨bl', ol', e', -, hcl⟩ := (HS.out.more hkp1).ex (by omega)
                injection e' with e'
                injection e' with e1 e2
                subst e1 e2
                obtain ⟨u0, u1, u2, u3, u4, u5, u6⟩ := hcl j x HX1.out.1
                have hst := (run_same (most := m) HH.out (k := q) HP.out.1 (by have := HL.out.2; omega)).2 st HP.out.2.2
                have hdo := do_ok (.slice ra rn rc) st x m _ hH1 (by omega) (by omega)
                have halw := alw_do (most := m) (hist_fits HH.out HX1.out.1) hst.1
                have HM : Hid ((wr.setCell ⟨g, j, none⟩ (.bool true)).ownsRow w.heap.size 4 1 (.slice (some ⟨g, 0, none⟩) n n) n (markL Value.bool n zs (q + 1)) ∧ (∀ g, (Value.slice ra rn rc).ownBlock = some g → w.heap.size ≤ g) ∧ Keeps None w (wr.setCell ⟨g, j, none⟩ (.bool true))) := ⟨hW1, hW.2.2, hkp1⟩
                have HD1 : Hid ((doR st x m).2 = true → runD m l (zs.take (q + 1)) = some (doR st x m).1) := fun h => by
                  rw [runD_more HZ.out, HP.out.2.2]
                  simp only [stepD, Option.bind_some, clAt_of HX1.out.1]
                  rw [halw.1, h, ← halw.2 (halw.1.trans h)]; rfl
                have HD2 : Hid ((doR st x m).2 = false → repB l m zs = false) := fun h => by
                  unfold repB
                  rw [runD_none (k := q + 1) (by
                    rw [runD_more HZ.out, HP.out.2.2]
                    simp only [stepD, Option.bind_some, clAt_of HX1.out.1]
                    rw [halw.1, h]; rfl)]
                  simp
                clear hall hW hkp htm hfr hKs hW1 hH1 hkp1 hcl hst halw HB2
                generalize doR st x m = D at *
                obtain ⟨D1, D2⟩ := D
                simp only [] at *
                cases D2 with
                | false =>
                  have HF : Hid (repB l m zs = false) := HD2.out rfl
                  clear HD1 HD2
                  go_wp2_with fail
                  refine hdo.mono ?_
                  rintro e w2 ⟨v', rfl, hh2, hk2, -⟩
                  have HX : Hid (Keeps None w w2) := HM.out.2.2.trans hk2 (fun _ f _ => f)
                  obtain ⟨⟨a3, n3, c3⟩, hv⟩ : ∃ t : Option Addr × Nat × Nat, v' = Value.slice t.1 t.2.1 t.2.2 := by obtain ⟨a', c', e, -⟩ := hh2.shape; exact ⟨(a', _, c'), e⟩
                  subst hv
                  clear hdo hh2 hk2 HM
                  go_wp2
                  go_ret2
                  exact rep_false HF.out HX.out
                | true =>
                  have HF : Hid (runD m l (zs.take (q + 1)) = some D1) := HD1.out rfl
                  clear HD1 HD2
                  go_wp2_with fail
                  refine hdo.mono ?_
                  rintro e w2 ⟨v', rfl, hh2, hk2, hm2⟩
                  have HX : Hid ((∃ st, runD m l (zs.take (q + 1)) = some st ∧ Held w2 v' st) ∧ (∀ g, v'.ownBlock = some g → w.heap.size ≤ g) ∧ w2.ownsRow w.heap.size 4 1 (.slice (some ⟨g, 0, none⟩) n n) n (markL Value.bool n zs (q + 1)) ∧ Keeps None w w2) := by
                    refine ⟨⟨_, HF.out, hh2⟩, fun i e => ?_, row_kept HM.out.1 hk2 (fun _ _ f => f), HM.out.2.2.trans hk2 (fun _ f _ => f)⟩
                    rcases hm2 with hM | ⟨g2, e2, hg2⟩
                    · exact HM.out.2.1 i (hM.symm.trans e)
                    · rw [e2] at e; injection e with e; have := HM.out.2.2.size; omega
                  obtain ⟨⟨a3, n3, c3⟩, hv⟩ : ∃ t : Option Addr × Nat × Nat, v' = Value.slice t.1 t.2.1 t.2.2 := by obtain ⟨a', c', e, -⟩ := hh2.shape; exact ⟨(a', _, c'), e⟩
                  subst hv
                  clear hdo hh2 hk2 HM hm2
                  go_wp2
                  exact ⟨⟨q + 1, by omega, by go_num, HT2.out.1, HT2.out.2, HX.out⟩, by simp [intOf]; omega⟩
    · have hkn2 : k = no := by omega
      subst hkn2
      have htake : zs.take k = zs := List.take_of_length_le (by have := HL.out.2; omega)
      rw [htake] at hrun
      have HP : Hid (preB l zs zs.length = true ∧ timeB l zs zs.length = true ∧ runD m l zs = some st ∧ zs.take k = zs) := ⟨by rw [← HL.out.2]; exact hpre, by rw [← HL.out.2]; exact hti, hrun, htake⟩
      have HW : Hid (wr.ownsRow w.heap.size 4 1 (.slice (some ⟨g, 0, none⟩) n n) n (markL Value.bool n zs k) ∧ Held wr (.slice ra rn rc) st ∧ Keeps None w wr) := ⟨hrow, hheld, hkp⟩
      clear hpre hti hrun hheld hlow hrow hkp htake
      go_wp2_with fail
      go_loopw [15] (fun i wr => ∃ q : Nat, q ≤ n ∧ i = .int .i64 q ∧ seenB l zs q = true ∧ wr.ownsRow w.heap.size 4 1 (.slice (some ⟨g, 0, none⟩) n n) n (markL Value.bool n zs k) ∧ Held wr (.slice ra rn rc) st ∧ Keeps None w wr) (fun i _ => n - (intOf i).toNat)
      case atStart => exact ⟨0, Nat.zero_le _, rfl, rfl, HW.out⟩
      case round =>
        clear HW
        obtain ⟨q, hq, rfl, hse, hrow, hheld, hkp⟩ := hrel
        by_cases hqn : q < n
        · obtain ⟨b, off, rfl, hb, hc⟩ := (HS.out.more hkp).ex (by omega)
          obtain ⟨x, hx⟩ : ∃ x, l[q]? = some x := ⟨l[q]'(by have := HL.out.1; omega), by simp⟩
          obtain ⟨y0, y1, y2, y3, y4, y5, y6⟩ := hc q x hx
          have i1 : (q : Int) < (n : Int) := by omega
          obtain ⟨g', e', -, -, _, x0, -⟩ := vals_elem hrow (markL_at Value.bool zs k hqn)
          injection e' with e'
          injection e' with e'
          subst e'
          rw [HP.out.2.2.2] at x0
          have HX : Hid (wr.ownsRow w.heap.size 4 1 (.slice (some ⟨g, 0, none⟩) n n) n (markL Value.bool n zs k) ∧ Held wr (.slice ra rn rc) st ∧ Keeps None w wr) := ⟨hrow, hheld, hkp⟩
          have hen := (fits_ended (hist_fits HH.out hx)).1
          by_cases hf : 0 ≤ x.fin
          · cases hcn : zs.contains (q : Int) with
            | true =>
              rw [hcn] at x0
              have HN : Hid (seenB l zs (q + 1) = true) := seenB_more hx hse (.inr hcn)
              clear hc hx hse hrow hheld hkp hen hcn
              go_wp2
              go_roundw
              case rel => exact ⟨q + 1, by omega, by go_num, HN.out, HX.out⟩
              case measure => simp [intOf]; omega
            | false =>
              rw [hcn] at x0
              have hF : repB l m zs = false := by unfold repB; rw [seenB_not hx (hen.2 hf) hcn]; simp
              have HF : Hid (repB l m zs = false) := hF
              clear hc hx hse hrow hheld hkp hen hcn hF
              go_wp2
              go_ret2
              exact rep_false HF.out HX.out.2.2
          · have HN : Hid (seenB l zs (q + 1) = true) := seenB_more hx hse (.inl (by
              by_cases h : x.code = 0
              · exact h
              · exact absurd (hen.1 h) hf))
            clear hc hx hse hrow hheld hkp hen x0
            go_wp2
            go_roundw
            case rel => exact ⟨q + 1, by omega, by go_num, HN.out, HX.out⟩
            case measure => simp [intOf]; omega
        · have hF : repB l m zs = true := by
            unfold repB
            rw [HP.out.1, HP.out.2.1, HP.out.2.2.1, ← HL.out.1, show n = q by omega, hse]; rfl
          have HF : Hid (repB l m zs = true ∧ Held wr (.slice ra rn rc) st ∧ Keeps None w wr) := ⟨hF, hheld, hkp⟩
          clear hse hrow hheld hkp hF
          go_wp2
          go_ret2
          exact ⟨_, by rw [HF.out.1]; rfl, HF.out.2.2, fun _ => ⟨st, HP.out.2.2.1, HF.out.2.1⟩⟩
end Go.Proofs.Ytheginjjncnheaa
