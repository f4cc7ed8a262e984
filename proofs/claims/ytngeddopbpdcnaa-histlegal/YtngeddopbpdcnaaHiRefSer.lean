import Derived.Test.YtngeddopbpdcnaaHiSerial
/-! The document's plain run. -/
namespace Go.Proofs.Ytngeddopbpdcnaa
set_option linter.unusedVariables false
open Go.RowKit Go.HeapKit

theorem errS_long {l : List (Int × Int)} {most : Int} (h : 40 < l.length) : errS l most = 2 := by unfold errS; rw [if_pos h]
theorem errS_arg {l : List (Int × Int)} {most : Int} (h : ¬ 40 < l.length) (hm : ¬ (1 ≤ most ∧ most ≤ 4096)) : errS l most = 3 := by unfold errS; rw [if_neg h, if_neg hm]
theorem errS_kind {l : List (Int × Int)} {most : Int} (h : ¬ 40 < l.length) (hm : 1 ≤ most ∧ most ≤ 4096) (hb : l.all todoOk = false) : errS l most = 31 := by unfold errS; rw [if_neg h, if_pos hm, kindErr_bad hb]
theorem errS_none {l : List (Int × Int)} {most : Int} (h : ¬ 40 < l.length) (hm : 1 ≤ most ∧ most ≤ 4096) (hb : l.all todoOk = true) : errS l most = 0 := by unfold errS; rw [if_neg h, if_pos hm, kindErr_ok hb]

theorem rserial_long (a : Option Addr) (n c : Nat) (most : Int) (w : World) (h : 40 < n) : Calls Try.prog 16 #[.slice a n c, .int .i64 most] w fun e w' => e = .returned (.tuple #[.slice none 0 0, .slice none 0 0, .int .i64 2]) ∧ w' = w := by
  have i1 : (40 : Int) < (n : Int) := by omega
  go_enter Try.func16, Try.ntmps16
  go_wp2
  go_ret3
  exact ⟨rfl, rfl⟩
theorem rserial_arg (a : Option Addr) (n c : Nat) (most : Int) (w : World) (h : ¬ 40 < n) (hm : ¬ (1 ≤ most ∧ most ≤ 4096)) : Calls Try.prog 16 #[.slice a n c, .int .i64 most] w fun e w' => e = .returned (.tuple #[.slice none 0 0, .slice none 0 0, .int .i64 3]) ∧ w' = w := by
  have i1 : ¬ (40 : Int) < (n : Int) := by omega
  by_cases h1 : most < 1
  · clear hm
    go_enter Try.func16, Try.ntmps16
    go_wp2
    go_ret3
    exact ⟨rfl, rfl⟩
  · have h2 : 4096 < most := by omega
    clear hm
    go_enter Try.func16, Try.ntmps16
    go_wp2
    go_ret3
    exact ⟨rfl, rfl⟩

set_option maxHeartbeats 8000000 in
set_option maxRecDepth 100000 in
theorem rserial_in (a : Option Addr) (n c : Nat) (l : List (Int × Int)) (m : Nat) (w : World) (hS : SeenT w a n l) (h40 : n ≤ 40) (hm1 : 1 ≤ m) (hm2 : m ≤ 4096) :
    Calls Try.prog 16 #[.slice a n c, .int .i64 m] w (SerPost w l m) := by
  have HL : Hid (n = l.length) := hS.len
  have HS : Hid (SeenT w a n l) := hS
  have i0 : ¬ (40 : Int) < (n : Int) := by omega
  have i1 : ¬ (m : Int) < 1 := by omega
  have i2 : ¬ (4096 : Int) < (m : Int) := by omega
  clear hS
  go_enter Try.func16, Try.ntmps16
  go_wp2_with fail
  go_loopw [7] (fun i wr => ∃ k : Nat, k ≤ n ∧ i = .int .i64 k ∧ (l.take k).all todoOk = true ∧ wr = w) (fun i _ => n - (intOf i).toNat)
  case atStart => exact ⟨0, Nat.zero_le _, rfl, rfl, rfl⟩
  case round =>
    obtain ⟨k, hk, rfl, hall, hw⟩ := hrel
    have hw2 := hw.symm
    subst hw2
    clear hw
    by_cases hkn : k < n
    · obtain ⟨b, off, rfl, hb, hc⟩ := HS.out.ex (by omega)
      obtain ⟨x, hx⟩ : ∃ x, l[k]? = some x := ⟨l[k]'(by have := HL.out; omega), by simp⟩
      obtain ⟨y0, y1⟩ := hc k x hx
      have i3 : (k : Int) < (n : Int) := by omega
      have HN : Hid (todoOk x = true → (l.take (k + 1)).all todoOk = true) := fun h => all_take_more hx hall h
      have HF : Hid (todoOk x = false → l.all todoOk = false) := fun h => not_all hx h
      clear hc hx hall
      obtain ⟨kd, tv⟩ := x
      simp only [] at *
      by_cases h0 : kd < 0
      · have hE : Hid (errS l m = 31) := errS_kind (by have := HL.out; omega) (by omega) (HF.out (by simp [todoOk]; omega))
        clear HN HF HS
        go_wp2
        go_ret3
        exact ⟨_, _, by rw [hE.out]; rfl, ser_err (by rw [hE.out]; decide) (Keeps.refl _ _)⟩
      · by_cases h2 : 2 < kd
        · have hE : Hid (errS l m = 31) := errS_kind (by have := HL.out; omega) (by omega) (HF.out (by simp [todoOk]; omega))
          clear HN HF HS
          go_wp2
          go_ret3
          exact ⟨_, _, by rw [hE.out]; rfl, ser_err (by rw [hE.out]; decide) (Keeps.refl _ _)⟩
        · have hT : Hid ((l.take (k + 1)).all todoOk = true) := HN.out (by simp [todoOk]; omega)
          clear HN HF HS
          go_wp2
          go_roundw
          case rel => exact ⟨k + 1, by omega, by go_num, hT.out, by first | rfl | trivial⟩
          case measure => simp [intOf]; omega
    · have hkn2 : k = n := by omega
      subst hkn2
      rw [List.take_of_length_le (by have := HL.out; omega)] at hall
      have HA : Hid (l.all todoOk = true) := hall
      have HE : Hid (errS l m = 0) := errS_none (by have := HL.out; omega) (by omega) hall
      clear hall
      go_wp2_with fail
      go_loopw [8, 9, 10, 11] (fun r s i _ wr => ∃ q : Nat, q ≤ k ∧ i = .int .i64 q ∧ wr.ownsRow w.heap.size 28 7 s q (clVals (serS m l q).1) ∧ Held wr r (serS m l q).2 ∧ (∀ g, r.ownBlock = some g → w.heap.size ≤ g) ∧ Keeps None w wr) (fun _ _ i _ _ => k - (intOf i).toNat)
      case atStart => exact ⟨0, Nat.zero_le _, rfl, row_nil _ _ _ _, .inl ⟨rfl, rfl⟩, fun g e => by simp [Value.ownBlock] at e, Keeps.refl _ _⟩
      case round =>
        obtain ⟨q, hq, rfl, hrow, hheld, hlow, hkp⟩ := hrel
        obtain ⟨sa, cs, rfl⟩ := row_shape hrow
        obtain ⟨ra, rc, rfl, -⟩ := hheld.shape
        obtain ⟨row, hrw⟩ : ∃ row, row = (serS m l q).2 := ⟨_, rfl⟩
        have hlen2 := (serS_length m l q).2
        rw [← hrw] at hheld hlen2 hlow ⊢
        obtain ⟨nr, hnr⟩ : ∃ nr, nr = row.length := ⟨_, rfl⟩
        rw [← hnr] at hheld hlen2 hlow ⊢
        have HRW : Hid (row = (serS m l q).2 ∧ nr = row.length) := ⟨hrw, hnr⟩
        have HR : Hid (wr.ownsRow w.heap.size 28 7 (.slice sa q cs) q (clVals (serS m l q).1)) := hrow
        have HV : Hid (∀ g, (Value.slice ra nr rc).ownBlock = some g → w.heap.size ≤ g) := hlow
        have HK : Hid (Keeps None w wr) := hkp
        have HH : Hid (Held wr (.slice ra nr rc) row) := hheld
        clear hrow hlow hkp hrw hheld hnr
        by_cases hqk : q < k
        · have hS := HS.out.more HK.out
          obtain ⟨b, off, rfl, hb, hcl⟩ := hS.ex (by omega)
          obtain ⟨x, hx⟩ : ∃ x, l[q]? = some x := ⟨l[q]'(by have := HL.out; omega), by simp⟩
          obtain ⟨y0, y1⟩ := hcl q x hx
          have i3 : (q : Int) < (k : Int) := by omega
          have hok := ok_at HA.out hx
          have HXX : Hid (l[q]? = some x ∧ todoOk x = true) := ⟨hx, hok⟩
          clear hcl hS hx hok
          obtain ⟨kd, tv⟩ := x
          have hca := asked_ok (.slice ra nr rc) row (kd, tv) m wr HH.out (by have := HRW.out.2; omega) (by omega) HXX.out.2
          unfold Cl.value at hca
          obtain ⟨X, hX⟩ : ∃ X, X = clS m 0 row (kd, tv) := ⟨_, rfl⟩
          have HX : Hid (X = clS m 0 row (kd, tv)) := hX
          rw [← hX] at hca
          simp only [] at *
          clear hX
          go_wp2_with fail
          refine hca.mono ?_
          rintro e w2 ⟨rfl, hk2⟩
          have HK2 : Hid (Keeps None wr w2) := hk2
          clear hca hk2
          have hcd := do_ok (.slice ra nr rc) row ⟨X.who, X.kind, X.arg, q, q, X.code, X.v⟩ m (w2.alloc (.cells #[.int .i64 X.who, .int .i64 X.kind, .int .i64 X.arg, .int .i64 q, .int .i64 q, .int .i64 X.code, .int .i64 X.v] 28)) ((HH.out.kept HK2.out (fun _ _ f => f)).kept (Keeps.alloc None w2 _) (fun _ _ f => f)) (by have := HRW.out.2; omega) (by omega)
          go_wp2_with fail
          refine hcd.mono ?_
          rintro e w3 ⟨vr, rfl, hh3, hk3, hm3⟩
          obtain ⟨⟨a3, n3, c3⟩, hv3⟩ : ∃ t : Option Addr × Nat × Nat, vr = .slice t.1 t.2.1 t.2.2 := by obtain ⟨a', c', e, -⟩ := hh3.shape; exact ⟨(a', _, c'), e⟩
          subst hv3
          simp only [] at *
          have hsz2 := HK2.out.size
          have d0 : w3.cell? ⟨w2.heap.size, 0, none⟩ = some (.int .i64 X.who) := hk3.cell (by rw [blk_cell (blk_new w2 _ _ rfl)]; rfl) (fun f => f)
          have d1 : w3.cell? ⟨w2.heap.size, 1, none⟩ = some (.int .i64 X.kind) := hk3.cell (by rw [blk_cell (blk_new w2 _ _ rfl)]; rfl) (fun f => f)
          have d2 : w3.cell? ⟨w2.heap.size, 2, none⟩ = some (.int .i64 X.arg) := hk3.cell (by rw [blk_cell (blk_new w2 _ _ rfl)]; rfl) (fun f => f)
          have d3 : w3.cell? ⟨w2.heap.size, 3, none⟩ = some (.int .i64 q) := hk3.cell (by rw [blk_cell (blk_new w2 _ _ rfl)]; rfl) (fun f => f)
          have d4 : w3.cell? ⟨w2.heap.size, 4, none⟩ = some (.int .i64 q) := hk3.cell (by rw [blk_cell (blk_new w2 _ _ rfl)]; rfl) (fun f => f)
          have d5 : w3.cell? ⟨w2.heap.size, 5, none⟩ = some (.int .i64 X.code) := hk3.cell (by rw [blk_cell (blk_new w2 _ _ rfl)]; rfl) (fun f => f)
          have d6 : w3.cell? ⟨w2.heap.size, 6, none⟩ = some (.int .i64 X.v) := hk3.cell (by rw [blk_cell (blk_new w2 _ _ rfl)]; rfl) (fun f => f)
          have hXq : clS m q row (kd, tv) = ⟨X.who, X.kind, X.arg, q, q, X.code, X.v⟩ := by rw [HX.out]; rfl
          have hkall : Keeps None w w3 := ((HK.out.trans HK2.out (fun _ f _ => f)).andAlloc _).trans hk3 (fun _ f _ => f)
          obtain ⟨g, cp, w4, hr, ho, hk4, hm4⟩ := call_more w.heap.size (.slice sa q cs) (serS m l q).1 ⟨X.who, X.kind, X.arg, q, q, X.code, X.v⟩ q 22 w3 (serS_length m l q).1.symm
            (row_kept (row_kept (row_kept HR.out HK2.out (fun _ _ f => f)) (Keeps.alloc None w2 _) (fun _ _ f => f)) hk3 (fun _ _ f => f)) hkall.size (by omega)
          have HN : Hid (w4.ownsRow w.heap.size 28 7 (.slice (some ⟨g, 0, none⟩) (q + 1) cp) (q + 1) (clVals (serS m l (q + 1)).1) ∧ Held w4 (.slice a3 n3 c3) (serS m l (q + 1)).2 ∧ (∀ g, (Value.slice a3 n3 c3).ownBlock = some g → w.heap.size ≤ g) ∧ Keeps None w w4) := by
            rw [serS_more m HXX.out.1]
            simp only
            rw [← HRW.out.1, hXq]
            refine ⟨ho, ?_, ?_, hkall.trans hk4 (fun i e hi => by have := row_low HR.out e; omega)⟩
            · rw [← clS_do m q row (kd, tv) HXX.out.2, hXq]
              refine hh3.kept hk4 (fun i e e2 => ?_)
              obtain ⟨cur, hcur⟩ := hh3.type e
              exact absurd (own_type (row_kept (row_kept (row_kept HR.out HK2.out (fun _ _ f => f)) (Keeps.alloc None w2 _) (fun _ _ f => f)) hk3 (fun _ _ f => f)) e2 hcur) (by decide)
            · intro g' e
              rcases hm3 with hM | ⟨g2, e2, hg2⟩
              · exact HV.out g' (hM.symm.trans e)
              · rw [e2] at e; injection e with e; have := HK.out.size; simp at hg2; omega
          clear ho hk4 hm4 hh3 hk3 hm3 hkall hXq HX HXX HRW HR HV HK HH HK2
          go_wp2_with (at_builtin; refine wpList_append_run rfl (.tmp 65) (.tmp 67) 22 22 rfl rfl rfl hr ?_)
          exact ⟨⟨q + 1, by omega, by go_num, HN.out⟩, by simp [intOf]; omega⟩
        · have hqk2 : q = k := by omega
          subst hqk2
          have HN : Hid (SerOut w wr l m (.slice sa q cs) (.slice ra nr rc)) := by
            have e1 : serC l m = (serS m l q).1 := by unfold serC; rw [if_pos HE.out, HL.out]; rfl
            have e2 : serZ l m = row := by unfold serZ; rw [if_pos HE.out, HRW.out.1, HL.out]; rfl
            exact ⟨by rw [e1, (serS_length m l q).1]; exact HR.out, by rw [e2]; exact HH.out, HV.out, HK.out⟩
          clear HR HRW HV HK HS HH
          go_wp2
          go_ret3
          exact ⟨_, _, by rw [HE.out]; rfl, HN.out⟩
theorem rserial_ok (a : Option Addr) (n c : Nat) (l : List (Int × Int)) (most : Int) (w : World) (hS : SeenT w a n l) :
    Calls Try.prog 16 #[.slice a n c, .int .i64 most] w (SerPost w l most) := by
  have hl := hS.len
  by_cases h40 : 40 < n
  · refine (rserial_long a n c most w h40).mono ?_
    rintro e w' ⟨rfl, rfl⟩
    have hE : errS l most = 2 := errS_long (by omega)
    exact ⟨_, _, by rw [hE], ser_err (by rw [hE]; decide) (Keeps.refl _ _)⟩
  · by_cases hm : 1 ≤ most ∧ most ≤ 4096
    · obtain ⟨m, rfl⟩ : ∃ m : Nat, most = m := ⟨most.toNat, by omega⟩
      exact rserial_in a n c l m w hS (by omega) (by omega) (by omega)
    · refine (rserial_arg a n c most w h40 hm).mono ?_
      rintro e w' ⟨rfl, rfl⟩
      have hE : errS l most = 3 := errS_arg (by omega) hm
      exact ⟨_, _, by rw [hE], ser_err (by rw [hE]; decide) (Keeps.refl _ _)⟩
end Go.Proofs.Ytngeddopbpdcnaa
