import Derived.Test.YtdiabpoafennlaaHyMem
import Derived.WalkMore
import Derived.Deep.RegionHeld3
import Derived.Deep.DeepCutAuto
import Derived.Laws.StructEq
/-! Games and lists compared; games written over. -/
namespace Go.Proofs.Ytdiabpoafennlaa
set_option linter.unusedVariables false
set_option maxRecDepth 20000
set_option linter.unusedSimpArgs false
open Go.RowKit Go.HeapKit

theorem keeps_tr {S : Nat → Prop} {a b c : World} (h : Keeps S a b) (k : Keeps None b c) : Keeps S a c := h.trans k (fun _ f _ => f.elim)
theorem iv_get {l : List Int} {k : Nat} {v : Value} (h : (iv l)[k]? = some v) : ∃ x, l[k]? = some x ∧ v = .int .i64 x := by
  rw [iv, List.getElem?_map] at h
  cases hk : l[k]? with
  | none => rw [hk] at h; cases h
  | some x => rw [hk] at h; exact ⟨x, rfl, (Option.some.inj h).symm⟩
theorem bv_get {l : List Bool} {k : Nat} {v : Value} (h : (bv' l)[k]? = some v) : ∃ x, l[k]? = some x ∧ v = .bool x := by
  rw [bv', List.getElem?_map] at h
  cases hk : l[k]? with
  | none => rw [hk] at h; cases h
  | some x => rw [hk] at h; exact ⟨x, rfl, (Option.some.inj h).symm⟩
theorem sameInts_ok (a b : Option Addr) (n c d : Nat) (l : List Int) (w : World) (ha : SeenV w a n (iv l)) (hb : SeenV w b n (iv l)) (hz : n ≤ 17592186044416) :
    Calls Try.prog 12 #[.slice a n c, .slice b n d] w fun e w' => e = .returned (.bool true) ∧ Keeps None w w' := by
  have HH : Hid (SeenV w a n (iv l) ∧ SeenV w b n (iv l)) := ⟨ha, hb⟩
  clear ha hb
  go_enter Try.func12, Try.ntmps12
  go_wp2_with fail
  go_loopw [5] (fun i wr => ∃ k : Nat, k ≤ n ∧ i = .int .i64 k ∧ Keeps None w wr) (fun i _ => n - (intOf i).toNat)
  case atStart => exact ⟨0, Nat.zero_le _, rfl, Keeps.refl _ _⟩
  case round =>
    obtain ⟨k, hk, rfl, hkp⟩ := hrel
    by_cases hkn : k < n
    · obtain ⟨ga, oa, v, rfl, -, hx, u0⟩ := (HH.out.1.more hkp).at hkn
      obtain ⟨gb, ob, v2, rfl, -, hx2, u1⟩ := (HH.out.2.more hkp).at hkn
      rw [hx] at hx2
      obtain rfl := Option.some.inj hx2
      obtain ⟨x, -, rfl⟩ := iv_get hx
      have i1 : (k : Int) < (n : Int) := by omega
      have HK : Hid (Keeps None w wr) := hkp
      clear hx hx2 HH hkp
      go_wp2
      go_quiet (fail)
      go_wp2
      go_roundw
      case rel => exact ⟨k + 1, by omega, by go_num, keeps_tr HK.out (keeps_drewN _ _)⟩
      case measure => simp [intOf]; omega
    · have HK : Hid (Keeps None w wr) := hkp
      clear HH hkp
      go_wp2
      go_ret
      exact ⟨rfl, HK.out⟩
set_option maxHeartbeats 3200000 in
theorem same_ok (a0 a1 a2 b0 b1 b2 : Option Addr) (n0 c0 n1 c1 n2 c2 d0 d1 d2 : Nat) (l : List Dd) (st : List Bool) (pk : List Int) (w : World) (h0 : Seen w a0 n0 l) (h1 : SeenV w a1 n1 (bv' st)) (h2 : SeenV w a2 n2 (iv pk)) (g0 : Seen w b0 n0 l) (g1 : SeenV w b1 n1 (bv' st)) (g2 : SeenV w b2 n2 (iv pk))
    (z0 : n0 * 16 ≤ 140737488351232) (z1 : n1 ≤ 140737488351232) (z2 : n2 * 8 ≤ 140737488351232) :
    Calls Try.prog 13 #[.agg #[.slice a0 n0 c0, .slice a1 n1 c1, .slice a2 n2 c2], .agg #[.slice b0 n0 d0, .slice b1 n1 d1, .slice b2 n2 d2]] w fun e w' => e = .returned (.bool true) ∧ Keeps None w w' := by
  obtain ⟨p0, hp0⟩ : ∃ p0, p0 = w.heap.size := ⟨_, rfl⟩
  have hb0 := (blk_kept (blk_new w (.cells #[.slice a0 n0 c0, .slice a1 n1 c1, .slice a2 n2 c2] 26) p0 hp0.symm) (Keeps.alloc None _ (.cells #[.slice b0 n0 d0, .slice b1 n1 d1, .slice b2 n2 d2] 26)) (fun f => f))
  have hb1 := blk_new (w.alloc (.cells #[.slice a0 n0 c0, .slice a1 n1 c1, .slice a2 n2 c2] 26)) (.cells #[.slice b0 n0 d0, .slice b1 n1 d1, .slice b2 n2 d2] 26) (p0 + 1) (by simp; omega)
  have hkb := (Keeps.alloc None w (.cells #[.slice a0 n0 c0, .slice a1 n1 c1, .slice a2 n2 c2] 26)).andAlloc (.cells #[.slice b0 n0 d0, .slice b1 n1 d1, .slice b2 n2 d2] 26)
  go_enter Try.func13, Try.ntmps13
  go_upto_region 1 with fail
  rw [← hp0]
  clear hp0
  generalize (w.alloc (.cells #[.slice a0 n0 c0, .slice a1 n1 c1, .slice a2 n2 c2] 26)).alloc (.cells #[.slice b0 n0 d0, .slice b1 n1 d1, .slice b2 n2 d2] 26) = wb at *
  have HP : Hid (∀ wx, Keeps None wb wx → Seen wx a0 n0 l ∧ SeenV wx a1 n1 (bv' st) ∧ SeenV wx a2 n2 (iv pk) ∧ Seen wx b0 n0 l ∧ SeenV wx b1 n1 (bv' st) ∧ SeenV wx b2 n2 (iv pk)) := fun wx hx =>
    ⟨(h0.more hkb).more hx, (h1.more hkb).more hx, (h2.more hkb).more hx, (g0.more hkb).more hx, (g1.more hkb).more hx, (g2.more hkb).more hx⟩
  have HC : Hid (∀ wx, Keeps None wb wx → (wx.cell? ⟨p0, 0, none⟩ = some (.slice a0 n0 c0) ∧ wx.cell? ⟨p0, 1, none⟩ = some (.slice a1 n1 c1) ∧ wx.cell? ⟨p0, 2, none⟩ = some (.slice a2 n2 c2)) ∧ wx.cell? ⟨p0 + 1, 0, none⟩ = some (.slice b0 n0 d0) ∧ wx.cell? ⟨p0 + 1, 1, none⟩ = some (.slice b1 n1 d1) ∧ wx.cell? ⟨p0 + 1, 2, none⟩ = some (.slice b2 n2 d2)) := fun wx hx =>
    ⟨⟨(blk_cell (blk_kept hb0 hx (fun f => f)) 0).trans rfl, (blk_cell (blk_kept hb0 hx (fun f => f)) 1).trans rfl, (blk_cell (blk_kept hb0 hx (fun f => f)) 2).trans rfl⟩, (blk_cell (blk_kept hb1 hx (fun f => f)) 0).trans rfl, (blk_cell (blk_kept hb1 hx (fun f => f)) 1).trans rfl, (blk_cell (blk_kept hb1 hx (fun f => f)) 2).trans rfl⟩
  have HK : Hid (Keeps None w wb) := hkb
  clear h0 h1 h2 g0 g1 g2 hb0 hb1 hkb
  obtain ⟨⟨y0, y1, y2⟩, y3, y4, y5⟩ := HC.out wb (Keeps.refl _ _)
  go_wp2_with fail
  clear y0 y1 y2 y3 y4 y5
  go_loopw [5] (fun i wr => ∃ k : Nat, k ≤ n0 ∧ i = .int .i64 k ∧ Keeps None wb wr) (fun i _ => n0 - (intOf i).toNat)
  case atStart => exact ⟨0, Nat.zero_le _, rfl, Keeps.refl _ _⟩
  case round =>
    obtain ⟨k, hk, rfl, hkp⟩ := hrel
    obtain ⟨⟨y0, y1, y2⟩, y3, y4, y5⟩ := HC.out wr hkp
    by_cases hkn : k < n0
    · obtain ⟨q0, -, -, q3, -, -⟩ := HP.out wr hkp
      obtain ⟨ga, oa, x, rfl, -, hx, u0, u1⟩ := q0.elem hkn
      obtain ⟨gb, ob, x2, rfl, -, hx2, u2, u3⟩ := q3.elem hkn
      rw [hx] at hx2
      obtain rfl := Option.some.inj hx2
      have i1 : (k : Int) < (n0 : Int) := by omega
      have HW : Hid (Keeps None wb wr) := hkp
      clear hx hx2 HC HP HK hkp q0 q3
      obtain ⟨xk, xl⟩ := x
      go_wp2
      go_quiet (fail)
      go_wp2
      go_roundw
      case rel => exact ⟨k + 1, by omega, by go_num, keeps_tr HW.out (keeps_drewN _ _)⟩
      case measure => simp [intOf]; omega
    · have HW : Hid (Keeps None wb wr) := hkp
      clear hkp
      go_wp2_with fail
      clear y0 y1 y2 y3 y4 y5
      go_loopw [6] (fun i ws => ∃ k : Nat, k ≤ n1 ∧ i = .int .i64 k ∧ Keeps None wb ws) (fun i _ => n1 - (intOf i).toNat)
      case atStart => exact ⟨0, Nat.zero_le _, rfl, HW.out⟩
      case round =>
        obtain ⟨k, hk, rfl, hkp⟩ := hrel
        obtain ⟨⟨y0, y1, y2⟩, y3, y4, y5⟩ := HC.out wr hkp
        by_cases hkn : k < n1
        · obtain ⟨-, q0, -, -, q3, -⟩ := HP.out wr hkp
          obtain ⟨ga, oa, v, rfl, -, hx, u0⟩ := q0.at hkn
          obtain ⟨gb, ob, v2, rfl, -, hx2, u1⟩ := q3.at hkn
          rw [hx] at hx2
          obtain rfl := Option.some.inj hx2
          obtain ⟨x, -, rfl⟩ := bv_get hx
          have i1 : (k : Int) < (n1 : Int) := by omega
          have HW : Hid (Keeps None wb wr) := hkp
          clear hx hx2 HC HP HK hkp q0 q3
          go_wp2
          go_quiet (fail)
          go_wp2
          go_roundw
          case rel => exact ⟨k + 1, by omega, by go_num, keeps_tr HW.out (keeps_drewN _ _)⟩
          case measure => simp [intOf]; omega
        · have HW : Hid (Keeps None wb wr) := hkp
          clear hkp
          go_wp2_with fail
          clear y0 y1 y2 y3 y4 y5
          go_loopw [7] (fun i ws => ∃ k : Nat, k ≤ n2 ∧ i = .int .i64 k ∧ Keeps None wb ws) (fun i _ => n2 - (intOf i).toNat)
          case atStart => exact ⟨0, Nat.zero_le _, rfl, HW.out⟩
          case round =>
            obtain ⟨k, hk, rfl, hkp⟩ := hrel
            obtain ⟨⟨y0, y1, y2⟩, y3, y4, y5⟩ := HC.out wr hkp
            by_cases hkn : k < n2
            · obtain ⟨-, -, q0, -, -, q3⟩ := HP.out wr hkp
              obtain ⟨ga, oa, v, rfl, -, hx, u0⟩ := q0.at hkn
              obtain ⟨gb, ob, v2, rfl, -, hx2, u1⟩ := q3.at hkn
              rw [hx] at hx2
              obtain rfl := Option.some.inj hx2
              obtain ⟨x, -, rfl⟩ := iv_get hx
              have i1 : (k : Int) < (n2 : Int) := by omega
              have HW : Hid (Keeps None wb wr) := hkp
              clear hx hx2 HC HP HK hkp q0 q3
              go_wp2
              go_quiet (fail)
              go_wp2
              go_roundw
              case rel => exact ⟨k + 1, by omega, by go_num, keeps_tr HW.out (keeps_drewN _ _)⟩
              case measure => simp [intOf]; omega
            · have HW : Hid (Keeps None wb wr) := hkp
              clear HC HP hkp
              go_wp2
              go_ret
              exact ⟨rfl, keeps_tr HK.out HW.out⟩
end Go.Proofs.Ytdiabpoafennlaa
