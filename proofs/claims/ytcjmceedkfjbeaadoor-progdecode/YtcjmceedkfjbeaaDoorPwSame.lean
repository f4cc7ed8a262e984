import Derived.Test.YtcjmceedkfjbeaaDoorPgCheck2
import Derived.Deep.QuietTactic
import Derived.Deep.RegionHeld3
import Derived.BigQuiet
import Derived.Laws.StructEq
/-! 'same' of programs of any size. -/
namespace Go.Proofs.YtcjmceedkfjbeaaDoor
set_option linter.unusedVariables false
set_option maxRecDepth 20000
open Go.RowKit Go.HeapKit

theorem neqIns' (a b c d e : Int) (w : World) : (binOp .neq 42 (.agg #[.int .i64 a, .int .i64 b, .int .i64 c, .int .i64 d, .int .i64 e]) (.agg #[.int .i64 a, .int .i64 b, .int .i64 c, .int .i64 d, .int .i64 e])).run Tryd.prog w = .ok (.bool false) w := by
  have u3 := Tryd.underlying3
  have a3 := Tryd.isAgg3
  have z3 := Tryd.sizeOf3
  have u2 := Tryd.underlying2
  have a2 := Tryd.isAgg2
  have z2 := Tryd.sizeOf2
  have hS : Tryd.prog.underlying 42 = some (.struct (Tryd.prog.fieldsOf 42)) := by kernel_rfl
  have hp : Tryd.prog.stoodInHeld 42 = false := by kernel_rfl
  rw [run_neq_struct, show (10000 : Nat) = 9999 + 1 from rfl, run_equalIn_agg w 9999 42 _ _ hS hp]
  simp only [Program.fieldsOf, Tryd.underlying42]
  go_simp
set_option maxHeartbeats 2000000 in
theorem sameFunc_wide (f : Fn) (ca : Option Addr) (cc : Nat) (ca' : Option Addr) (cc' : Nat) (w : World) (hC : SeenI w ca f.code.length f.code) (hC' : SeenI w ca' f.code.length f.code) (hl : f.code.length ≤ 4611686018427387904) :
    Calls Tryd.prog 30 #[fnV f ca cc, fnV f ca' cc'] w fun e w' => e = .returned (.bool true) ∧ Keeps None w w' := by
  unfold fnV
  obtain ⟨n, hn⟩ : ∃ n, n = f.code.length := ⟨_, rfl⟩
  rw [← hn] at hC hC' hl ⊢
  obtain ⟨b1, b2⟩ := two_boxes w #[.int .i64 f.params, .int .i64 f.regs, .int .i64 f.slots, .slice ca n cc] #[.int .i64 f.params, .int .i64 f.regs, .int .i64 f.slots, .slice ca' n cc'] 40 40
  have hk := keeps2 w (.cells #[.int .i64 f.params, .int .i64 f.regs, .int .i64 f.slots, .slice ca n cc] 40) (.cells #[.int .i64 f.params, .int .i64 f.regs, .int .i64 f.slots, .slice ca' n cc'] 40)
  obtain ⟨wa, hwa⟩ : ∃ wa, wa = (w.alloc (.cells #[.int .i64 f.params, .int .i64 f.regs, .int .i64 f.slots, .slice ca n cc] 40)).alloc (.cells #[.int .i64 f.params, .int .i64 f.regs, .int .i64 f.slots, .slice ca' n cc'] 40) := ⟨_, rfl⟩
  obtain ⟨B, hB⟩ : ∃ B, B = w.heap.size := ⟨_, rfl⟩
  rw [← hwa] at b1 b2 hk
  rw [← hB] at b1 b2
  have d0 := (cell_of_heap b1 0).trans rfl
  have d1 := (cell_of_heap b1 1).trans rfl
  have d2 := (cell_of_heap b1 2).trans rfl
  have d3 := (cell_of_heap b1 3).trans rfl
  have e0 := (cell_of_heap b2 0).trans rfl
  have e1 := (cell_of_heap b2 1).trans rfl
  have e2 := (cell_of_heap b2 2).trans rfl
  have e3 := (cell_of_heap b2 3).trans rfl
  have HC : Hid (SeenI wa ca n f.code ∧ SeenI wa ca' n f.code ∧ Keeps None w wa ∧ wa.heap[B]? = some (.cells #[.int .i64 f.params, .int .i64 f.regs, .int .i64 f.slots, .slice ca n cc] 40 (0, 0)) ∧ wa.heap[B + 1]? = some (.cells #[.int .i64 f.params, .int .i64 f.regs, .int .i64 f.slots, .slice ca' n cc'] 40 (0, 0))) := ⟨hC.more hk, hC'.more hk, hk, b1, b2⟩
  clear hC hC' hk b1 b2 hn
  go_enter Tryd.func30, Tryd.ntmps30
  go_upto_region 1 with fail
  rw [← hwa, ← hB]
  clear hwa hB
  go_wp2_with fail
  clear d0 d1 d2 d3 e0 e1 e2 e3
  go_loopw [5] (fun s5 wr => ∃ k : Nat, k ≤ n ∧ s5 = .int .i64 k ∧ Keeps None wa wr) (fun i _ => n - (intOf i).toNat)
  case atStart => exact ⟨0, Nat.zero_le _, rfl, Keeps.refl _ _⟩
  case round =>
    obtain ⟨k, hk, rfl, hkp⟩ := hrel
    have d3 := (cell_of_heap (blk_kept HC.out.2.2.2.1 hkp (fun f => f)) 3).trans rfl
    have e3 := (cell_of_heap (blk_kept HC.out.2.2.2.2 hkp (fun f => f)) 3).trans rfl
    by_cases hkn : k < n
    · obtain ⟨b, off, x, rfl, hx, hat⟩ := (HC.out.1.more hkp).at hkn
      obtain ⟨b', off', x', rfl, hx', hat'⟩ := (HC.out.2.1.more hkp).at hkn
      rw [hx] at hx'
      obtain rfl := Option.some.inj hx'
      obtain ⟨y0, y1, y2, y3, y4⟩ := hat
      obtain ⟨u0, u1, u2, u3, u4⟩ := hat'
      have i1 : (k : Int) < (n : Int) := by omega
      have hne := neqIns' x.kind x.a x.b x.c x.k
      have HK : Hid (Keeps None wa wr) := hkp
      clear hkp hx
      go_upto_region 6 with fail
      go_quiet (fail)
      go_wp2_with fail
      exact ⟨⟨k + 1, by omega, by simp, HK.out.trans (Keeps.drewN None _ _) (fun _ f _ => f)⟩, by simp [intOf]; omega⟩
    · have i1 : ¬ ((k : Int) < (n : Int)) := by omega
      have HK : Hid (Keeps None wa wr) := hkp
      clear hkp
      go_wp2_with fail
      go_ret
      exact ⟨rfl, HC.out.2.2.1.trans HK.out (fun _ f _ => f)⟩
set_option maxHeartbeats 2000000 in
theorem same_wide (a : Option Addr) (n c : Nat) (a' : Option Addr) (c' : Nat) (l : List Fn) (w : World) (hS : SeenF w a n l) (hS' : SeenF w a' n l) (hl : ∀ f ∈ l, f.code.length ≤ 4611686018427387904) (hn : n ≤ 4611686018427387904) :
    Calls Tryd.prog 12 #[.agg #[.slice a n c], .agg #[.slice a' n c']] w fun e w' => e = .returned (.bool true) ∧ Keeps None w w' := by
  obtain ⟨b1, b2⟩ := two_boxes w #[.slice a n c] #[.slice a' n c'] 25 25
  have hk := keeps2 w (.cells #[.slice a n c] 25) (.cells #[.slice a' n c'] 25)
  obtain ⟨wa, hwa⟩ : ∃ wa, wa = (w.alloc (.cells #[.slice a n c] 25)).alloc (.cells #[.slice a' n c'] 25) := ⟨_, rfl⟩
  obtain ⟨B, hB⟩ : ∃ B, B = w.heap.size := ⟨_, rfl⟩
  rw [← hwa] at b1 b2 hk
  rw [← hB] at b1 b2
  have d0 := (cell_of_heap b1 0).trans rfl
  have e0 := (cell_of_heap b2 0).trans rfl
  have HC : Hid (SeenF wa a n l ∧ SeenF wa a' n l ∧ Keeps None w wa ∧ wa.heap[B]? = some (.cells #[.slice a n c] 25 (0, 0)) ∧ wa.heap[B + 1]? = some (.cells #[.slice a' n c'] 25 (0, 0)) ∧ ∀ f ∈ l, f.code.length ≤ 4611686018427387904) := ⟨hS.more hk, hS'.more hk, hk, b1, b2, hl⟩
  clear hS hS' hk b1 b2 hl
  go_enter Tryd.func12, Tryd.ntmps12
  go_upto_region 1 with fail
  rw [← hwa, ← hB]
  clear hwa hB
  go_wp2_with fail
  clear d0 e0
  go_loopw [5] (fun s5 wr => ∃ k : Nat, k ≤ n ∧ s5 = .int .i64 k ∧ Keeps None wa wr) (fun i _ => n - (intOf i).toNat)
  case atStart => exact ⟨0, Nat.zero_le _, rfl, Keeps.refl _ _⟩
  case round =>
    obtain ⟨k, hk, rfl, hkp⟩ := hrel
    have d0 := (cell_of_heap (blk_kept HC.out.2.2.2.1 hkp (fun f => f)) 0).trans rfl
    have e0 := (cell_of_heap (blk_kept HC.out.2.2.2.2.1 hkp (fun f => f)) 0).trans rfl
    by_cases hkn : k < n
    · obtain ⟨b, off, f, ca, cc, rfl, hf, hat⟩ := (HC.out.1.more hkp).at hkn
      obtain ⟨b', off', f', ca', cc', rfl, hf', hat'⟩ := (HC.out.2.1.more hkp).at hkn
      rw [hf] at hf'
      obtain rfl := Option.some.inj hf'
      have i1 : (k : Int) < (n : Int) := by omega
      have hdr := Keeps.drew None wr
      have hsf := sameFunc_wide f ca cc ca' cc' wr.drew (hat.seen.more hdr) (hat'.seen.more hdr) (HC.out.2.2.2.2.2 f (List.mem_of_getElem? hf))
      unfold fnV at hsf
      obtain ⟨y0, y1, y2, y3, -⟩ := hat
      obtain ⟨u0, u1, u2, u3, -⟩ := hat'
      have HK : Hid (Keeps None wa wr) := hkp
      obtain ⟨m, hm⟩ : ∃ m, m = f.code.length := ⟨_, rfl⟩
      rw [← hm] at hsf y3 u3
      clear hkp hf hm hdr
      go_upto_region 6 with fail
      go_cut [6] (fun s6 wx => s6 = .bool true ∧ Keeps None wr wx)
      case first =>
        go_region_held3 (fun w' => w'.cell? ⟨B, 0, none⟩ = some (.slice (some ⟨b, off, none⟩) n c) ∧ w'.cell? ⟨B + 1, 0, none⟩ = some (.slice (some ⟨b', off', none⟩) n c') ∧ w'.cell? ⟨b, off + k * 4, none⟩ = some (.int .i64 f.params) ∧ w'.cell? ⟨b, off + k * 4 + 1, none⟩ = some (.int .i64 f.regs) ∧ w'.cell? ⟨b, off + k * 4 + 2, none⟩ = some (.int .i64 f.slots) ∧ w'.cell? ⟨b, off + k * 4 + 3, none⟩ = some (.slice ca m cc) ∧ w'.cell? ⟨b', off' + k * 4, none⟩ = some (.int .i64 f.params) ∧ w'.cell? ⟨b', off' + k * 4 + 1, none⟩ = some (.int .i64 f.regs) ∧ w'.cell? ⟨b', off' + k * 4 + 2, none⟩ = some (.int .i64 f.slots) ∧ w'.cell? ⟨b', off' + k * 4 + 3, none⟩ = some (.slice ca' m cc')) (first | with_reducible exact hs2 | go_keep) (first
          | (go_at_call 30; refine hsf.mono ?_; rintro _ w2 ⟨rfl, hk2⟩; have hs2 := And.intro (hk2.cell d0 (fun f => f)) (And.intro (hk2.cell e0 (fun f => f)) (And.intro (hk2.cell y0 (fun f => f)) (And.intro (hk2.cell y1 (fun f => f)) (And.intro (hk2.cell y2 (fun f => f)) (And.intro (hk2.cell y3 (fun f => f)) (And.intro (hk2.cell u0 (fun f => f)) (And.intro (hk2.cell u1 (fun f => f)) (And.intro (hk2.cell u2 (fun f => f)) (hk2.cell u3 (fun f => f)))))))))))
        )
        all_goals (go_wp2_with fail; go_meet)
        all_goals exact ⟨rfl, (Keeps.drew None wr).trans hk2 (fun _ f _ => f)⟩
      case rest =>
        obtain ⟨rfl, hk2⟩ := hcut
        have HK2 : Hid (Keeps None wr wc) := hk2
        clear hk2
        go_wp2_with fail
        exact ⟨⟨k + 1, by omega, by simp, HK.out.trans HK2.out (fun _ f _ => f)⟩, by simp [intOf]; omega⟩
    · have i1 : ¬ ((k : Int) < (n : Int)) := by omega
      have HK : Hid (Keeps None wa wr) := hkp
      clear hkp
      go_wp2_with fail
      go_ret
      exact ⟨rfl, HC.out.2.2.1.trans HK.out (fun _ f _ => f)⟩
end Go.Proofs.YtcjmceedkfjbeaaDoor
