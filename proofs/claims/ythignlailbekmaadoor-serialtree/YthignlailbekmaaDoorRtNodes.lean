import Derived.Test.YthignlailbekmaaDoorRdSame
import Derived.Test.YthignlailbekmaaDoorRdMem
/-! The statements' own: two lists of nodes that are the same. -/
namespace Go.Proofs.YthignlailbekmaaDoor
set_option linter.unusedVariables false
set_option maxRecDepth 20000
open Go.RowKit Go.HeapKit Go.PlainOps

/-- Nodes that can be read. -/
structure SeenD (w : World) (a : Option Addr) (n : Nat) (l : List Nd) : Prop where
  len : n = l.length
  ex : 0 < n → ∃ b, a = some ⟨b, 0, none⟩ ∧ b < w.heap.size ∧ ∀ k x, l[k]? = some x → ∀ j y, x.l[j]? = some y → w.cell? ⟨b, k * 7 + j, none⟩ = some (.int .i64 y)
theorem SeenD.more {w w' : World} {a : Option Addr} {n : Nat} {l : List Nd} (h : SeenD w a n l) (hk : Keeps None w w') : SeenD w' a n l := by
  refine ⟨h.len, fun h0 => ?_⟩
  obtain ⟨b, rfl, hb, hc⟩ := h.ex h0
  exact ⟨b, rfl, Nat.lt_of_lt_of_le hb hk.size, fun k x hx j y hy => hk.cell (hc k x hx j y hy) (fun f => f)⟩
theorem row_seenD {w : World} {nv : Value} {l : List Nd} (h : w.ownsRow 0 41 7 nv l.length (ndVals l)) : ∃ a c, nv = .slice a l.length c ∧ SeenD w a l.length l := by
  rcases h.2 with ⟨rfl, h0⟩ | ⟨g, cap, cur, rfl, hb0, hg, hnc, hcm, hcs, htk⟩
  · exact ⟨none, 0, by rw [h0], ⟨rfl, fun h => by omega⟩⟩
  · refine ⟨_, cap, rfl, ⟨rfl, fun _ => ⟨g, rfl, blk_lt hg, fun k x hx j y hy => ?_⟩⟩⟩
    have h1 := ndVals_at l k x hx j y hy
    rw [← htk, List.getElem?_take] at h1
    rw [blk_cell hg, ← Array.getElem?_toList]
    split at h1
    · exact h1
    · cases h1
theorem neqNd6 (a b c d e f g : Int) (w : World) : (binOp .neq 41 (.agg #[.int .i64 a, .int .i64 b, .int .i64 c, .int .i64 d, .int .i64 e, .int .i64 f, .int .i64 g]) (.agg #[.int .i64 a, .int .i64 b, .int .i64 c, .int .i64 d, .int .i64 e, .int .i64 f, .int .i64 g])).run Tryd.prog w = .ok (.bool false) w := by
  have u3 := Tryd.underlying3
  have a3 := Tryd.isAgg3
  have z3 := Tryd.sizeOf3
  have u2 := Tryd.underlying2
  have a2 := Tryd.isAgg2
  have z2 := Tryd.sizeOf2
  have hS : Tryd.prog.underlying 41 = some (.struct (Tryd.prog.fieldsOf 41)) := by kernel_rfl
  have hp : Tryd.prog.stoodInHeld 41 = false := by kernel_rfl
  rw [run_neq_struct, show (10000 : Nat) = 9999 + 1 from rfl, run_equalIn_agg w 9999 41 _ _ hS hp]
  simp only [Program.fieldsOf, Tryd.underlying41]
  go_simp
set_option maxHeartbeats 1000000 in
theorem sameNodes_any (a : Option Addr) (n c : Nat) (a' : Option Addr) (c' : Nat) (l : List Nd) (w : World) (hS : SeenD w a n l) (hS' : SeenD w a' n l) (hn : (n : Int) ≤ 4611686018427387904) :
    Calls Tryd.prog 12 #[.slice a n c, .slice a' n c'] w fun e w' => e = .returned (.bool true) ∧ Keeps None w w' := by
  have HC : Hid (SeenD w a n l ∧ SeenD w a' n l) := ⟨hS, hS'⟩
  clear hS hS'
  go_enter Tryd.func12, Tryd.ntmps12
  go_wp2_with fail
  go_loopw [5] (fun s5 wr => ∃ k : Nat, k ≤ n ∧ s5 = .int .i64 k ∧ Keeps None w wr) (fun i _ => n - (intOf i).toNat)
  case atStart => exact ⟨0, Nat.zero_le _, rfl, Keeps.refl _ _⟩
  case round =>
    obtain ⟨k, hk, rfl, hkp⟩ := hrel
    by_cases hkn : k < n
    · obtain ⟨b, rfl, _, hc⟩ := (HC.out.1.more hkp).ex (by omega)
      obtain ⟨b', rfl, _, hc'⟩ := (HC.out.2.more hkp).ex (by omega)
      obtain ⟨x, hx⟩ : ∃ x, l[k]? = some x := ⟨l[k]'(by have := HC.out.1.len; omega), by simp⟩
      have y0 := hc k x hx 0 _ rfl
      have y1 := hc k x hx 1 _ rfl
      have y2 := hc k x hx 2 _ rfl
      have y3 := hc k x hx 3 _ rfl
      have y4 := hc k x hx 4 _ rfl
      have y5 := hc k x hx 5 _ rfl
      have y6 := hc k x hx 6 _ rfl
      have u0 := hc' k x hx 0 _ rfl
      have u1 := hc' k x hx 1 _ rfl
      have u2 := hc' k x hx 2 _ rfl
      have u3 := hc' k x hx 3 _ rfl
      have u4 := hc' k x hx 4 _ rfl
      have u5 := hc' k x hx 5 _ rfl
      have u6 := hc' k x hx 6 _ rfl
      simp only [Nat.add_zero] at y0 u0
      have i1 : (k : Int) < (n : Int) := by omega
      have hne := neqNd6 x.parent x.idx x.func x.work x.ped x.arg x.v
      have HK : Hid (Keeps None w wr) := hkp
      clear hkp hx hc hc'
      go_upto_region 6 with fail
      go_quiet (fail)
      go_wp2_with fail
      exact ⟨⟨k + 1, by omega, by simp, HK.out.trans (Keeps.drewN None _ _) (fun _ f _ => f)⟩, by simp [intOf]; omega⟩
    · have i1 : ¬ ((k : Int) < (n : Int)) := by omega
      have HK : Hid (Keeps None w wr) := hkp
      clear hkp
      go_wp2_with fail
      go_ret
      exact ⟨rfl, HK.out⟩
end Go.Proofs.YthignlailbekmaaDoor
