import Derived.Test.YtdiabpoafennlaaHyMerge
/-! A deed: a sync. -/
namespace Go.Proofs.Ytdiabpoafennlaa
set_option linter.unusedVariables false
set_option maxRecDepth 20000
set_option linter.unusedSimpArgs false
open Go.RowKit Go.HeapKit

set_option maxHeartbeats 1600000 in
theorem do_sync (base pb at0 : Nat) (st : List Bool) (X : PX) (K : Ky → Value) (R : Nat → Value) (s : PS) (w : World) (tk : List (Nat × List Nat)) (sp : Nat) (m0 : MS (List Int)) (pre : List Nat) (P : List Int) (loc : Int) (h : PM w base pb st X K R R (psOf s tk sp m0)) (hb : base ≤ w.heap.size) (hline : LineOk pre P m0) (hP : P.length ≤ 4096) (h0 : 0 < m0.row.length) (hr : m0.row.length ≤ 5000) (hn : tk.length ≤ 5000) (hmg : m0.mg.length + m0.row.length ≤ 100000) :
    Calls Try.prog 34 #[.pointer (some ⟨pb, 0, none⟩), .int .i64 at0, .agg #[.int .i64 2, .int .i64 loc]] w fun e w' => e = .returned (.tuple #[]) ∧ (∃ X' K' R', PM w' base pb st X' K' R' R' (psOf s tk sp (m0.all listK at0))) ∧ Keeps (fun i => base ≤ i) w w' := by
  have HP : Hid (PM w base pb st X K R R (psOf s tk sp m0) ∧ LineOk pre P m0 ∧ base ≤ w.heap.size) := ⟨h, hline, hb⟩
  clear h hline hb
  have hb0 := blk_new w (.cells #[.int .i64 2, .int .i64 loc] 45) w.heap.size rfl
  have hkb := (Keeps.alloc None w (.cells #[.int .i64 2, .int .i64 loc] 45))
  go_enter Try.func34, Try.ntmps34
  go_upto_region 1 with fail
  have HA : Hid (PM (w.alloc (.cells #[.int .i64 2, .int .i64 loc] 45)) base pb st X K R R (psOf s tk sp m0) ∧ Keeps None w (w.alloc (.cells #[.int .i64 2, .int .i64 loc] 45))) := ⟨HP.out.1.more hkb, hkb⟩
  have d0 : (w.alloc (.cells #[.int .i64 2, .int .i64 loc] 45)).cell? ⟨w.heap.size, 0, none⟩ = some (.int .i64 2) := blk_cell hb0 0
  clear hb0 hkb
  go_wp2_with fail
  refine (merge_ok base pb at0 st X K R s _ tk sp m0 pre P HA.out.1 (Nat.le_trans HP.out.2.2 HA.out.2.size) HP.out.2.1 hP h0 hr hn hmg).mono ?_
  rintro e w1 ⟨rfl, hM, hk⟩
  have HF : Hid ((∃ X' K' R', PM w1 base pb st X' K' R' R' (psOf s tk sp (m0.all listK at0))) ∧ Keeps (fun i => base ≤ i) w w1) := ⟨hM, (HA.out.2.mono (T := fun i => base ≤ i) (fun _ f _ => f.elim)).trans hk (fun i e _ => e)⟩
  clear hM hk
  go_wp2
  go_end0
  exact ⟨rfl, HF.out⟩
end Go.Proofs.Ytdiabpoafennlaa
