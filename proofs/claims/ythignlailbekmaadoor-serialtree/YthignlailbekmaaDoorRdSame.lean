import Derived.Test.YthignlailbekmaaDoorRdCopy2
import Derived.Test.YthignlailbekmaaDoorSrRoot
import Derived.Deep.QuietTactic
import Derived.BigQuiet
import Derived.Laws.StructEq
/-! The statements' own: two programs, two lists that are the same; a list copied. -/
namespace Go.Proofs.YthignlailbekmaaDoor
set_option linter.unusedVariables false
set_option maxRecDepth 20000
open Go.RowKit Go.HeapKit Go.PlainOps

theorem neqIns6 (a b c d e : Int) (w : World) : (binOp .neq 46 (.agg #[.int .i64 a, .int .i64 b, .int .i64 c, .int .i64 d, .int .i64 e]) (.agg #[.int .i64 a, .int .i64 b, .int .i64 c, .int .i64 d, .int .i64 e])).run Tryd.prog w = .ok (.bool false) w := by
  have u3 := Tryd.underlying3
  have a3 := Tryd.isAgg3
  have z3 := Tryd.sizeOf3
  have u2 := Tryd.underlying2
  have a2 := Tryd.isAgg2
  have z2 := Tryd.sizeOf2
  have hS : Tryd.prog.underlying 46 = some (.struct (Tryd.prog.fieldsOf 46)) := by kernel_rfl
  have hp : Tryd.prog.stoodInHeld 46 = false := by kernel_rfl
  rw [run_neq_struct, show (10000 : Nat) = 9999 + 1 from rfl, run_equalIn_agg w 9999 46 _ _ hS hp]
  simp only [Program.fieldsOf, Tryd.underlying46]
  go_simp
theorem neqVal6 (a b c d e : Int) (w : World) : (binOp .neq 28 (.agg #[.int .i64 a, .int .i64 b, .int .i64 c, .int .i64 d, .int .i64 e]) (.agg #[.int .i64 a, .int .i64 b, .int .i64 c, .int .i64 d, .int .i64 e])).run Tryd.prog w = .ok (.bool false) w := by
  have u3 := Tryd.underlying3
  have a3 := Tryd.isAgg3
  have z3 := Tryd.sizeOf3
  have u2 := Tryd.underlying2
  have a2 := Tryd.isAgg2
  have z2 := Tryd.sizeOf2
  have hS : Tryd.prog.underlying 28 = some (.struct (Tryd.prog.fieldsOf 28)) := by kernel_rfl
  have hp : Tryd.prog.stoodInHeld 28 = false := by kernel_rfl
  rw [run_neq_struct, show (10000 : Nat) = 9999 + 1 from rfl, run_equalIn_agg w 9999 28 _ _ hS hp]
  simp only [Program.fieldsOf, Tryd.underlying28]
  go_simp
theorem eqVal6 (a b c d e : Int) (w : World) : (binOp .eql 28 (.agg #[.int .i64 a, .int .i64 b, .int .i64 c, .int .i64 d, .int .i64 e]) (.agg #[.int .i64 a, .int .i64 b, .int .i64 c, .int .i64 d, .int .i64 e])).run Tryd.prog w = .ok (.bool true) w := by
  have u3 := Tryd.underlying3
  have a3 := Tryd.isAgg3
  have z3 := Tryd.sizeOf3
  have u2 := Tryd.underlying2
  have a2 := Tryd.isAgg2
  have z2 := Tryd.sizeOf2
  have hS : Tryd.prog.underlying 28 = some (.struct (Tryd.prog.fieldsOf 28)) := by kernel_rfl
  have hp : Tryd.prog.stoodInHeld 28 = false := by kernel_rfl
  rw [run_eql_struct, show (10000 : Nat) = 9999 + 1 from rfl, run_equalIn_agg w 9999 28 _ _ hS hp]
  simp only [Program.fieldsOf, Tryd.underlying28]
  go_simp
set_option maxHeartbeats 1000000 in
theorem sameInts_any (a : Option Addr) (n c : Nat) (a' : Option Addr) (c' : Nat) (zs : List Int) (w : World) (hS : SeenA w a n zs) (hS' : SeenA w a' n zs) (hn : (n : Int) ≤ 4611686018427387904) :
    Calls Tryd.prog 9 #[.slice a n c, .slice a' n c'] w fun e w' => e = .returned (.bool true) ∧ Keeps None w w' := by
  have HC : Hid (SeenA w a n zs ∧ SeenA w a' n zs) := ⟨hS, hS'⟩
  clear hS hS'
  go_enter Tryd.func9, Tryd.ntmps9
  go_wp2_with fail
  go_loopw [5] (fun s5 wr => ∃ k : Nat, k ≤ n ∧ s5 = .int .i64 k ∧ Keeps None w wr) (fun i _ => n - (intOf i).toNat)
  case atStart => exact ⟨0, Nat.zero_le _, rfl, Keeps.refl _ _⟩
  case round =>
    obtain ⟨k, hk, rfl, hkp⟩ := hrel
    by_cases hkn : k < n
    · obtain ⟨b, off, rfl, _, hc⟩ := (HC.out.1.more hkp).ex (by omega)
      obtain ⟨b', off', rfl, _, hc'⟩ := (HC.out.2.more hkp).ex (by omega)
      obtain ⟨x, hx⟩ : ∃ x, zs[k]? = some x := ⟨zs[k]'(by have := HC.out.1.len; omega), by simp⟩
      have y0 := hc k x hx
      have y1 := hc' k x hx
      have i1 : (k : Int) < (n : Int) := by omega
      have HK : Hid (Keeps None w wr) := hkp
      clear hkp hx hc hc'
      go_upto_region 6 with fail
      go_quiet (fail)
      go_wp2_with fail
      exact ⟨⟨k + 1, by omega, by simp, HK.out.trans (Keeps.drewN None _ _) (fun _ f _ => f)⟩, by simp [intOf]; omega⟩
    · have i1 : ¬ ((k : Int) < (n : Int)) := by omega
      have HK : Hid (Keeps None w wr) := hkp
      clear hkp
      go_wp2_with fail
      go_ret
      exact ⟨rfl, HK.out⟩
set_option maxHeartbeats 2000000 in
theorem same6_any (a : Option Addr) (n c : Nat) (a' : Option Addr) (c' : Nat) (l : List Fn) (w : World) (hS : SeenF w a n l) (hS' : SeenF w a' n l) (hn : n * 48 ≤ 140737488351232) (hrc : ∀ f ∈ l, f.code.length * 40 ≤ 140737488351232) :
    Calls Tryd.prog 8 #[.agg #[.slice a n c], .agg #[.slice a' n c']] w fun e w' => e = .returned (.bool true) ∧ Keeps None w w' := by
  obtain ⟨b1, b2⟩ := two_boxes w #[.slice a n c] #[.slice a' n c'] 24 24
  have hk := keeps2 w (.cells #[.slice a n c] 24) (.cells #[.slice a' n c'] 24)
  obtain ⟨wa, hwa⟩ : ∃ wa, wa = (w.alloc (.cells #[.slice a n c] 24)).alloc (.cells #[.slice a' n c'] 24) := ⟨_, rfl⟩
  obtain ⟨B, hB⟩ : ∃ B, B = w.heap.size := ⟨_, rfl⟩
  rw [← hwa] at b1 b2 hk
  rw [← hB] at b1 b2
  have d0 : wa.cell? ⟨B, 0, none⟩ = some (.slice a n c) := (blk_cell b1 0).trans rfl
  have e0 : wa.cell? ⟨B + 1, 0, none⟩ = some (.slice a' n c') := (blk_cell b2 0).trans rfl
  have HC : Hid (SeenF wa a n l ∧ SeenF wa a' n l ∧ Keeps None w wa ∧ wa.heap[B]? = some (.cells #[.slice a n c] 24 (0, 0)) ∧ wa.heap[B + 1]? = some (.cells #[.slice a' n c'] 24 (0, 0)) ∧ ∀ f ∈ l, f.code.length * 40 ≤ 140737488351232) := ⟨hS.more hk, hS'.more hk, hk, b1, b2, hrc⟩
  have hnb : (n : Int) ≤ 4611686018427387904 := by omega
  clear hS hS' hk b1 b2 hrc
  go_enter Tryd.func8, Tryd.ntmps8
  go_upto_region 1 with fail
  rw [← hwa, ← hB]
  clear hwa hB
  go_wp2_with fail
  clear d0 e0
  go_loopw [5] (fun s5 wr => ∃ k : Nat, k ≤ n ∧ s5 = .int .i64 k ∧ Keeps None wa wr) (fun i _ => n - (intOf i).toNat)
  case atStart => exact ⟨0, Nat.zero_le _, rfl, Keeps.refl _ _⟩
  case round =>
    obtain ⟨k, hk, rfl, hkp⟩ := hrel
    have d0 : wr.cell? ⟨B, 0, none⟩ = some (.slice a n c) := (blk_cell (blk_kept HC.out.2.2.2.1 hkp (fun f => f)) 0).trans rfl
    have e0 : wr.cell? ⟨B + 1, 0, none⟩ = some (.slice a' n c') := (blk_cell (blk_kept HC.out.2.2.2.2.1 hkp (fun f => f)) 0).trans rfl
    by_cases hkn : k < n
    · obtain ⟨b, off, f, ca, cc, rfl, hf, hat⟩ := (HC.out.1.more hkp).at hkn
      obtain ⟨b', off', f', ca', cc', rfl, hf', hat'⟩ := (HC.out.2.1.more hkp).at hkn
      rw [hf] at hf'
      obtain rfl := Option.some.inj hf'
      obtain ⟨m, hm⟩ : ∃ m, m = f.code.length := ⟨_, rfl⟩
      have hmb := HC.out.2.2.2.2.2 f (List.mem_of_getElem? hf)
      obtain ⟨y0, y1, y2, y3, hsn⟩ := hat
      obtain ⟨u0, u1, u2, u3, hsn'⟩ := hat'
      rw [← hm] at y3 u3 hsn hsn' hmb
      have hmm : (m : Int) ≤ 4611686018427387904 := by omega
      obtain ⟨q1, q2⟩ := two_boxes wr #[.int .i64 f.params, .int .i64 f.regs, .int .i64 f.slots, .slice ca m cc] #[.int .i64 f.params, .int .i64 f.regs, .int .i64 f.slots, .slice ca' m cc'] 44 44
      have hk2 := keeps2 wr (.cells #[.int .i64 f.params, .int .i64 f.regs, .int .i64 f.slots, .slice ca m cc] 44) (.cells #[.int .i64 f.params, .int .i64 f.regs, .int .i64 f.slots, .slice ca' m cc'] 44)
      have hk1 := Keeps.alloc None wr (.cells #[.int .i64 f.params, .int .i64 f.regs, .int .i64 f.slots, .slice ca m cc] 44)
      have e1 := hk1.cell e0 (fun f => f)
      have v0 := hk1.cell u0 (fun f => f)
      have v1 := hk1.cell u1 (fun f => f)
      have v2 := hk1.cell u2 (fun f => f)
      have v3 := hk1.cell u3 (fun f => f)
      obtain ⟨wb, hwb⟩ : ∃ wb, wb = (wr.alloc (.cells #[.int .i64 f.params, .int .i64 f.regs, .int .i64 f.slots, .slice ca m cc] 44)).alloc (.cells #[.int .i64 f.params, .int .i64 f.regs, .int .i64 f.slots, .slice ca' m cc'] 44) := ⟨_, rfl⟩
      obtain ⟨F, hF⟩ : ∃ F, F = wr.heap.size := ⟨_, rfl⟩
      rw [← hwb] at q1 q2 hk2
      rw [← hF] at q1 q2
      have i1 : (k : Int) < (n : Int) := by omega
      have HB : Hid (SeenI wb ca m f.code ∧ SeenI wb ca' m f.code ∧ Keeps None wa wb ∧ wb.heap[F]? = some (.cells #[.int .i64 f.params, .int .i64 f.regs, .int .i64 f.slots, .slice ca m cc] 44 (0, 0)) ∧ wb.heap[F + 1]? = some (.cells #[.int .i64 f.params, .int .i64 f.regs, .int .i64 f.slots, .slice ca' m cc'] 44 (0, 0))) := ⟨hsn.more hk2, hsn'.more hk2, hkp.trans hk2 (fun _ f _ => f), q1, q2⟩
      have x0 : wb.cell? ⟨F, 0, none⟩ = some (.int .i64 f.params) := (blk_cell q1 0).trans rfl
      have x1 : wb.cell? ⟨F, 1, none⟩ = some (.int .i64 f.regs) := (blk_cell q1 1).trans rfl
      have x2 : wb.cell? ⟨F, 2, none⟩ = some (.int .i64 f.slots) := (blk_cell q1 2).trans rfl
      have x3 : wb.cell? ⟨F, 3, none⟩ = some (.slice ca m cc) := (blk_cell q1 3).trans rfl
      have z0 : wb.cell? ⟨F + 1, 0, none⟩ = some (.int .i64 f.params) := (blk_cell q2 0).trans rfl
      have z1 : wb.cell? ⟨F + 1, 1, none⟩ = some (.int .i64 f.regs) := (blk_cell q2 1).trans rfl
      have z2 : wb.cell? ⟨F + 1, 2, none⟩ = some (.int .i64 f.slots) := (blk_cell q2 2).trans rfl
      have z3 : wb.cell? ⟨F + 1, 3, none⟩ = some (.slice ca' m cc') := (blk_cell q2 3).trans rfl
      clear hkp hf hsn hsn' hm q1 q2 hk2 hk1
      go_upto_region 8 with fail
      rw [← hwb, ← hF]
      clear hwb hF y0 y1 y2 y3 u0 u1 u2 u3 v0 v1 v2 v3 d0 e0 e1
      go_wp2_with fail
      clear x0 x1 x2 x3 z0 z1 z2 z3
      go_loopw [8] (fun s8 wy => ∃ j : Nat, j ≤ m ∧ s8 = .int .i64 j ∧ Keeps None wb wy) (fun i _ => m - (intOf i).toNat)
      case atStart => exact ⟨0, Nat.zero_le _, rfl, Keeps.refl _ _⟩
      case round =>
        obtain ⟨j, hj, rfl, hkq⟩ := hrel
        have d3 : wr.cell? ⟨F, 3, none⟩ = some (.slice ca m cc) := (blk_cell (blk_kept HB.out.2.2.2.1 hkq (fun f => f)) 3).trans rfl
        have e3 : wr.cell? ⟨F + 1, 3, none⟩ = some (.slice ca' m cc') := (blk_cell (blk_kept HB.out.2.2.2.2 hkq (fun f => f)) 3).trans rfl
        by_cases hjm : j < m
        · obtain ⟨g, o, x, rfl, hx, hat⟩ := (HB.out.1.more hkq).at hjm
          obtain ⟨g', o', x', rfl, hx', hat'⟩ := (HB.out.2.1.more hkq).at hjm
          rw [hx] at hx'
          obtain rfl := Option.some.inj hx'
          obtain ⟨y0, y1, y2, y3, y4⟩ := hat
          obtain ⟨u0, u1, u2, u3, u4⟩ := hat'
          have i2 : (j : Int) < (m : Int) := by omega
          have hne := neqIns6 x.kind x.a x.b x.c x.k
          have HK : Hid (Keeps None wb wr) := hkq
          clear hkq hx
          go_upto_region 13 with fail
          go_quiet (fail)
          go_wp2_with fail
          exact ⟨⟨j + 1, by omega, by simp, HK.out.trans (Keeps.drewN None _ _) (fun _ f _ => f)⟩, by simp [intOf]; omega⟩
        · have i2 : ¬ ((j : Int) < (m : Int)) := by omega
          have HK : Hid (Keeps None wb wr) := hkq
          clear hkq
          go_wp2_with fail
          exact ⟨⟨k + 1, by omega, by simp, HB.out.2.2.1.trans HK.out (fun _ f _ => f)⟩, by simp [intOf]; omega⟩
    · have i1 : ¬ ((k : Int) < (n : Int)) := by omega
      have HK : Hid (Keeps None wa wr) := hkp
      clear hkp
      go_wp2_with fail
      go_ret
      exact ⟨rfl, HC.out.2.2.1.trans HK.out (fun _ f _ => f)⟩
end Go.Proofs.YthignlailbekmaaDoor
