import Derived.Test.YtheginjjncnheaaHiOrd
import Derived.Deep.DeepCutAuto
/-! The program: does an order keep what was ahead in time; does the plain deque allow it? -/
namespace Go.Proofs.Ytheginjjncnheaa
set_option linter.unusedVariables false
set_option maxRecDepth 20000
open Go.RowKit Go.HeapKit

theorem idx_of {l : List Cl} {zs : List Int} (hp : preB l zs zs.length = true) {k : Nat} {z : Int} (hz : zs[k]? = some z) : ∃ j : Nat, z = j ∧ ∃ x, l[j]? = some x := by
  have hk := (List.getElem?_eq_some_iff.1 hz).1
  have hi := range_at hk hp
  unfold idxB at hi
  rw [getD_of hz] at hi
  simp only [Bool.and_eq_true, decide_eq_true_eq] at hi
  exact ⟨z.toNat, by omega, l[z.toNat]'(by omega), by simp⟩

set_option maxHeartbeats 4000000 in
theorem time_ok (a : Option Addr) (n c : Nat) (l : List Cl) (ao : Option Addr) (no co : Nat) (zs : List Int) (w : World) (hS : Seen w a n l) (hO : SeenI w ao no zs) (hoc : no ≤ co) (h40 : n ≤ 40) (hno : no * 8 ≤ 140737488355328) (hp : preB l zs zs.length = true) :
    Calls Try.prog 25 #[.slice a n c, .slice ao no co] w fun e w' => e = .returned (.bool (timeB l zs zs.length)) ∧ Keeps None w w' := by
  have HL : Hid (n = l.length ∧ no = zs.length) := ⟨hS.len, hO.len⟩
  have HS : Hid (Seen w a n l) := hS
  have HO : Hid (SeenI w ao no zs) := hO
  have HP : Hid (preB l zs zs.length = true) := hp
  clear hS hO hp
  obtain ⟨R, hR⟩ : ∃ R, R = timeB l zs zs.length := ⟨_, rfl⟩
  have HR : Hid (R = timeB l zs zs.length) := hR
  rw [← hR]
  clear hR
  go_enter Try.func25, Try.ntmps25
  go_wp2_with fail
  go_loopw [5, 6, 8, 11, 20] (fun _ _ _ i _ wr => ∃ k : Nat, k ≤ no ∧ i = .int .i64 k ∧ timeB l zs k = true ∧ Keeps None w wr) (fun _ _ _ i _ _ => no - (intOf i).toNat)
  case atStart => exact ⟨0, Nat.zero_le _, rfl, rfl, Keeps.refl _ _⟩
  case round =>
    obtain ⟨k, hk, rfl, hti, hkp⟩ := hrel
    by_cases hkn : k < no
    · obtain ⟨b, off, rfl, hb, hc⟩ := (HO.out.more hkp).ex (by omega)
      obtain ⟨z, hz⟩ : ∃ z, zs[k]? = some z := ⟨zs[k]'(by have := HL.out.2; omega), by simp⟩
      obtain ⟨j, rfl, x, hx⟩ := idx_of HP.out hz
      have hjn : j < n := by have := (List.getElem?_eq_some_iff.1 hx).1; have := HL.out.1; omega
      have y0 := hc k _ hz
      have i1 : (k : Int) < (no : Int) := by omega
      have HZ : Hid (zs[k]? = some (j : Int) ∧ l[j]? = some x) := ⟨hz, hx⟩
      have HT : Hid (timeB l zs k = true) := hti
      have HK : Hid (Keeps None w wr) := hkp
      have HB : Hid (tmB l zs k = false → R = false) := fun h => by
        rw [HR.out]; exact range_not (k := k) (by have := HL.out.2; omega) h
      have hkc : k ≤ co := by omega
      obtain ⟨bl, ol, rfl, -, -⟩ := HS.out.ex (by omega)
      clear hc hz hti hkp hx
      go_wp2_with fail
      go_loopw [8, 20] (fun _ i wr => ∃ q : Nat, q ≤ k ∧ i = .int .i64 q ∧ (zs.take q).all (fun y => !aheadB x (clAt l y)) = true ∧ Keeps None w wr) (fun _ i _ => k - (intOf i).toNat)
      case atStart => exact ⟨0, Nat.zero_le _, rfl, rfl, HK.out⟩
      case round =>
        clear HK y0
        obtain ⟨q, hq, rfl, hall, hkp⟩ := hrel
        by_cases hqk : q < k
        · obtain ⟨b', off', e', hb', hc⟩ := (HO.out.more hkp).ex (by omega)
          injection e' with e'
          injection e' with e1 e2
          subst e1 e2
          obtain ⟨bl', ol', e', hbl', hcl⟩ := (HS.out.more hkp).ex (by omega)
          injection e' with e'
          injection e' with e1 e2
          subst e1 e2
          obtain ⟨z2, hz2⟩ : ∃ z, zs[q]? = some z := ⟨zs[q]'(by have := HL.out.2; omega), by simp⟩
          obtain ⟨j2, rfl, x2, hx2⟩ := idx_of HP.out hz2
          have hj2n : j2 < n := by have := (List.getElem?_eq_some_iff.1 hx2).1; have := HL.out.1; omega
          have y0 := hc q _ hz2
          obtain ⟨u0, u1, u2, u3, u4, u5, u6⟩ := hcl j x HZ.out.2
          obtain ⟨v0, v1, v2, v3, v4, v5, v6⟩ := hcl j2 x2 hx2
          have i2 : (q : Int) < (k : Int) := by omega
          have i3 : (j : Int) < (n : Int) := by omega
          have i4 : (j2 : Int) < (n : Int) := by omega
          have HK3 : Hid (∀ w2, Keeps None wr w2 → Keeps None w w2) := fun w2 h => hkp.trans h (fun _ f _ => f)
          have HA1 : Hid (aheadB x x2 = false → (zs.take (q + 1)).all (fun y => !aheadB x (clAt l y)) = true) := fun h => by
            rw [take_more hz2, List.all_append, hall, List.all_cons, clAt_of hx2, h]; rfl
          have HA2 : Hid (aheadB x x2 = true → R = false) := fun h => HB.out (by
            unfold tmB
            rw [getD_of HZ.out.1, clAt_of HZ.out.2]
            cases e : (zs.take k).all (fun y => !aheadB x (clAt l y)) with
            | false => rfl
            | true =>
              have := List.all_eq_true.1 e (j2 : Int) (List.mem_of_getElem? (i := q) (by rw [List.getElem?_take, if_pos hqk]; exact hz2))
              rw [clAt_of hx2, h] at this
              cases this)
          have hah := ahead_ok x x2
          clear hc hcl hz2 hx2 hall hkp hb' hbl'
          cases hB : aheadB x x2 with
          | true =>
            rw [hB] at hah
            have HF : Hid (R = false) := HA2.out hB
            clear HA1 HA2 hB
            go_upto_region 7 with fail
            go_cut [32] (fun s32 wx => s32 = .bool true ∧ Keeps None wr wx)
            case first =>
              go_region_held3 (fun w' => w'.cell? ⟨bl, ol + j * 7, none⟩ = some (.int .i64 x.who) ∧ w'.cell? ⟨bl, ol + j * 7 + 1, none⟩ = some (.int .i64 x.kind) ∧ w'.cell? ⟨bl, ol + j * 7 + 2, none⟩ = some (.int .i64 x.arg) ∧ w'.cell? ⟨bl, ol + j * 7 + 3, none⟩ = some (.int .i64 x.beg) ∧ w'.cell? ⟨bl, ol + j * 7 + 4, none⟩ = some (.int .i64 x.fin) ∧ w'.cell? ⟨bl, ol + j * 7 + 5, none⟩ = some (.int .i64 x.code) ∧ w'.cell? ⟨bl, ol + j * 7 + 6, none⟩ = some (.int .i64 x.v) ∧ w'.cell? ⟨bl, ol + j2 * 7, none⟩ = some (.int .i64 x2.who) ∧ w'.cell? ⟨bl, ol + j2 * 7 + 1, none⟩ = some (.int .i64 x2.kind) ∧ w'.cell? ⟨bl, ol + j2 * 7 + 2, none⟩ = some (.int .i64 x2.arg) ∧ w'.cell? ⟨bl, ol + j2 * 7 + 3, none⟩ = some (.int .i64 x2.beg) ∧ w'.cell? ⟨bl, ol + j2 * 7 + 4, none⟩ = some (.int .i64 x2.fin) ∧ w'.cell? ⟨bl, ol + j2 * 7 + 5, none⟩ = some (.int .i64 x2.code) ∧ w'.cell? ⟨bl, ol + j2 * 7 + 6, none⟩ = some (.int .i64 x2.v)) (first | exact hs2 | go_keep) (first
                | (go_at_call 35; refine (hah _).mono ?_; rintro e w2 ⟨rfl, hk2⟩; have hk3 : Keeps None wr w2 := (Keeps.drew None wr).trans hk2 (fun _ f _ => f); have hs2 : w2.cell? ⟨bl, ol + j * 7, none⟩ = some (.int .i64 x.who) ∧ w2.cell? ⟨bl, ol + j * 7 + 1, none⟩ = some (.int .i64 x.kind) ∧ w2.cell? ⟨bl, ol + j * 7 + 2, none⟩ = some (.int .i64 x.arg) ∧ w2.cell? ⟨bl, ol + j * 7 + 3, none⟩ = some (.int .i64 x.beg) ∧ w2.cell? ⟨bl, ol + j * 7 + 4, none⟩ = some (.int .i64 x.fin) ∧ w2.cell? ⟨bl, ol + j * 7 + 5, none⟩ = some (.int .i64 x.code) ∧ w2.cell? ⟨bl, ol + j * 7 + 6, none⟩ = some (.int .i64 x.v) ∧ w2.cell? ⟨bl, ol + j2 * 7, none⟩ = some (.int .i64 x2.who) ∧ w2.cell? ⟨bl, ol + j2 * 7 + 1, none⟩ = some (.int .i64 x2.kind) ∧ w2.cell? ⟨bl, ol + j2 * 7 + 2, none⟩ = some (.int .i64 x2.arg) ∧ w2.cell? ⟨bl, ol + j2 * 7 + 3, none⟩ = some (.int .i64 x2.beg) ∧ w2.cell? ⟨bl, ol + j2 * 7 + 4, none⟩ = some (.int .i64 x2.fin) ∧ w2.cell? ⟨bl, ol + j2 * 7 + 5, none⟩ = some (.int .i64 x2.code) ∧ w2.cell? ⟨bl, ol + j2 * 7 + 6, none⟩ = some (.int .i64 x2.v) := ⟨hk3.cell u0 (fun f => f), hk3.cell u1 (fun f => f), hk3.cell u2 (fun f => f), hk3.cell u3 (fun f => f), hk3.cell u4 (fun f => f), hk3.cell u5 (fun f => f), hk3.cell u6 (fun f => f), hk3.cell v0 (fun f => f), hk3.cell v1 (fun f => f), hk3.cell v2 (fun f => f), hk3.cell v3 (fun f => f), hk3.cell v4 (fun f => f), hk3.cell v5 (fun f => f), hk3.cell v6 (fun f => f)⟩))
              all_goals (go_wp2_with fail; go_meet)
              all_goals exact ⟨rfl, hk3⟩
            case rest =>
              obtain ⟨rfl, hkx⟩ := hcut
              have HX := HK3.out _ hkx
              clear hah hkx HK3 u0 u1 u2 u3 u4 u5 u6 v0 v1 v2 v3 v4 v5 v6 y0
              go_wp2
              go_ret
              exact ⟨by rw [HF.out]; rfl, HX⟩
          | false =>
            rw [hB] at hah
            have HF : Hid ((zs.take (q + 1)).all (fun y => !aheadB x (clAt l y)) = true) := HA1.out hB
            clear HA1 HA2 hB
            go_upto_region 7 with fail
            go_cut [32] (fun s32 wx => s32 = .bool false ∧ Keeps None wr wx)
            case first =>
              go_region_held3 (fun w' => w'.cell? ⟨bl, ol + j * 7, none⟩ = some (.int .i64 x.who) ∧ w'.cell? ⟨bl, ol + j * 7 + 1, none⟩ = some (.int .i64 x.kind) ∧ w'.cell? ⟨bl, ol + j * 7 + 2, none⟩ = some (.int .i64 x.arg) ∧ w'.cell? ⟨bl, ol + j * 7 + 3, none⟩ = some (.int .i64 x.beg) ∧ w'.cell? ⟨bl, ol + j * 7 + 4, none⟩ = some (.int .i64 x.fin) ∧ w'.cell? ⟨bl, ol + j * 7 + 5, none⟩ = some (.int .i64 x.code) ∧ w'.cell? ⟨bl, ol + j * 7 + 6, none⟩ = some (.int .i64 x.v) ∧ w'.cell? ⟨bl, ol + j2 * 7, none⟩ = some (.int .i64 x2.who) ∧ w'.cell? ⟨bl, ol + j2 * 7 + 1, none⟩ = some (.int .i64 x2.kind) ∧ w'.cell? ⟨bl, ol + j2 * 7 + 2, none⟩ = some (.int .i64 x2.arg) ∧ w'.cell? ⟨bl, ol + j2 * 7 + 3, none⟩ = some (.int .i64 x2.beg) ∧ w'.cell? ⟨bl, ol + j2 * 7 + 4, none⟩ = some (.int .i64 x2.fin) ∧ w'.cell? ⟨bl, ol + j2 * 7 + 5, none⟩ = some (.int .i64 x2.code) ∧ w'.cell? ⟨bl, ol + j2 * 7 + 6, none⟩ = some (.int .i64 x2.v)) (first | exact hs2 | go_keep) (first
                | (go_at_call 35; refine (hah _).mono ?_; rintro e w2 ⟨rfl, hk2⟩; have hk3 : Keeps None wr w2 := (Keeps.drew None wr).trans hk2 (fun _ f _ => f); have hs2 : w2.cell? ⟨bl, ol + j * 7, none⟩ = some (.int .i64 x.who) ∧ w2.cell? ⟨bl, ol + j * 7 + 1, none⟩ = some (.int .i64 x.kind) ∧ w2.cell? ⟨bl, ol + j * 7 + 2, none⟩ = some (.int .i64 x.arg) ∧ w2.cell? ⟨bl, ol + j * 7 + 3, none⟩ = some (.int .i64 x.beg) ∧ w2.cell? ⟨bl, ol + j * 7 + 4, none⟩ = some (.int .i64 x.fin) ∧ w2.cell? ⟨bl, ol + j * 7 + 5, none⟩ = some (.int .i64 x.code) ∧ w2.cell? ⟨bl, ol + j * 7 + 6, none⟩ = some (.int .i64 x.v) ∧ w2.cell? ⟨bl, ol + j2 * 7, none⟩ = some (.int .i64 x2.who) ∧ w2.cell? ⟨bl, ol + j2 * 7 + 1, none⟩ = some (.int .i64 x2.kind) ∧ w2.cell? ⟨bl, ol + j2 * 7 + 2, none⟩ = some (.int .i64 x2.arg) ∧ w2.cell? ⟨bl, ol + j2 * 7 + 3, none⟩ = some (.int .i64 x2.beg) ∧ w2.cell? ⟨bl, ol + j2 * 7 + 4, none⟩ = some (.int .i64 x2.fin) ∧ w2.cell? ⟨bl, ol + j2 * 7 + 5, none⟩ = some (.int .i64 x2.code) ∧ w2.cell? ⟨bl, ol + j2 * 7 + 6, none⟩ = some (.int .i64 x2.v) := ⟨hk3.cell u0 (fun f => f), hk3.cell u1 (fun f => f), hk3.cell u2 (fun f => f), hk3.cell u3 (fun f => f), hk3.cell u4 (fun f => f), hk3.cell u5 (fun f => f), hk3.cell u6 (fun f => f), hk3.cell v0 (fun f => f), hk3.cell v1 (fun f => f), hk3.cell v2 (fun f => f), hk3.cell v3 (fun f => f), hk3.cell v4 (fun f => f), hk3.cell v5 (fun f => f), hk3.cell v6 (fun f => f)⟩))
              all_goals (go_wp2_with fail; go_meet)
              all_goals exact ⟨rfl, hk3⟩
            case rest =>
              obtain ⟨rfl, hkx⟩ := hcut
              have HX := HK3.out _ hkx
              clear hah hkx HK3 u0 u1 u2 u3 u4 u5 u6 v0 v1 v2 v3 v4 v5 v6 y0
              go_wp2
              go_roundw
              case rel => exact ⟨q + 1, by omega, by go_num, HF.out, HX⟩
              case measure => simp [intOf]; omega
        · have hqk2 : q = k := by omega
          subst hqk2
          have HN : Hid (timeB l zs (q + 1) = true) := by
            have h1 := HT.out
            unfold timeB at h1 ⊢
            rw [range_more, h1]
            show (true && tmB l zs q) = true
            unfold tmB
            rw [getD_of HZ.out.1, clAt_of HZ.out.2, hall]
            rfl
          have HK4 : Hid (Keeps None w wr) := hkp
          clear hall hkp
          go_wp2
          exact ⟨⟨q + 1, by omega, by go_num, HN.out, HK4.out⟩, by simp [intOf]; omega⟩
    · have HF : Hid (R = true) := by rw [HR.out, ← HL.out.2, show no = k by omega]; exact hti
      have HK : Hid (Keeps None w wr) := hkp
      clear hti hkp
      go_wp2
      go_ret
      exact ⟨by rw [HF.out]; rfl, HK.out⟩
end Go.Proofs.Ytheginjjncnheaa
