import Derived.Test.YtbeblgeiafkniaaDoorProg
import Derived.WalkKit
import Derived.WalkSpells
import Derived.WalkLawsBesides
import Derived.Deep.RegionWith
import Derived.Test.YtbeblgeiafkniaaDoorPlainParse
/-! The contracts of the document's own digits and Format. -/
namespace Go.Proofs.YtbeblgeiafkniaaDoor
open Go.RowKit Go.PlainOps

def digN (n : Nat) : List UInt8 := if n = 0 then [] else Lib.decDigits n
theorem digN_zero : digN 0 = [] := rfl
theorem digN_step (n : Nat) (h : n ≠ 0) : digN n = digN (n / 10) ++ [UInt8.ofNat (48 + n % 10)] := by
  unfold digN
  rw [if_neg h]
  by_cases h10 : n < 10
  · have e1 : n / 10 = 0 := by omega
    have e2 : n % 10 = n := by omega
    rw [e1, e2, if_pos rfl, List.nil_append, dec_small h10]
  · rw [if_neg (by omega), dec_more (by omega)]
theorem dec_len : ∀ n, ∀ k, 1 ≤ k → n < 10 ^ k → (Lib.decDigits n).length ≤ k := by
  refine dec_induct (fun n l => ∀ k, 1 ≤ k → n < 10 ^ k → l.length ≤ k) (fun d hd k hk _ => by simpa using hk) (fun n d h1 hd ih k hk h => ?_)
  match k, hk with
  | 1, _ => rw [Nat.pow_one] at h; omega
  | k + 2, _ =>
    have := ih (k + 1) (by omega) (by rw [Nat.pow_succ 10 (k + 1)] at h; omega)
    rw [List.length_append, List.length_singleton]; omega
theorem digN_len (n : Nat) (h : n ≤ 9223372036854775808) : (digN n).length ≤ 19 := by
  unfold digN
  split
  · simp
  · exact dec_len n 19 (by decide) (by omega)
theorem byte_digit (r : Int) (n : Nat) (hr : r = (n % 10 : Nat)) : strOfNums [IntKind.u8.wrap (IntKind.i64.wrap (48 + r))] = ⟨#[UInt8.ofNat (48 + n % 10)]⟩ := by
  have e1 : IntKind.i64.wrap (48 + r) = 48 + r := by simp [IntKind.wrap, IntKind.bits, IntKind.signed]; omega
  have e2 : IntKind.u8.wrap (48 + r) = 48 + r := by simp [IntKind.wrap, IntKind.bits, IntKind.signed]; omega
  rw [e1, e2]
  have e3 : (48 + r).toNat = 48 + n % 10 := by omega
  simp [strOfNums, e3]
theorem snoc_str (l : List UInt8) (c : UInt8) : (⟨l.toArray⟩ : ByteArray) ++ ⟨#[c]⟩ = ⟨(l ++ [c]).toArray⟩ := by
  apply Go.WideShapes.bytes_inj
  simp [ByteArray.data_append]
theorem heap_new (w : World) (o : Obj) : (w.alloc o).heap[w.heap.size]? = some o := by
  show (w.heap.push o)[w.heap.size]? = _
  simp
theorem cell_new (w : World) (x : Value) (t : TypeId) : (w.alloc (.cells #[x] t)).cell? ⟨w.heap.size, 0, none⟩ = some x := by
  simp only [World.cell?, heap_new]
  rfl
theorem conv_cell {w : World} {b : Nat} {x : Int} (h : w.cell? ⟨b, 0, none⟩ = some (.int .u8 x)) : (convert 39 9 (.slice (some ⟨b, 0, none⟩) 1 1)).run Tryd.prog w = .ok (.string (strOfNums [x])) w :=
  run_convert_bytes_arg w 39 5 Tryd.underlying39 Tryd.underlying5 b 0 1 1 [x] rfl (fun i hi => by
    obtain rfl : i = 0 := by omega
    simpa using h) 9 Tryd.underlying9
theorem conv_now (w : World) (x : Int) : (convert 39 9 (.slice (some ⟨w.heap.size, 0, none⟩) 1 1)).run Tryd.prog (w.alloc (.cells #[.int .u8 x] 5)) = .ok (.string (strOfNums [x])) (w.alloc (.cells #[.int .u8 x] 5)) := conv_cell (cell_new w _ 5)
theorem conv_now' (w : World) (x : Int) : (convert 39 9 (.slice (some ⟨w.heap.size, 0, none⟩) 1 1)).run Tryd.prog (w.alloc (.cells #[.int .u8 x] 5)).drew = .ok (.string (strOfNums [x])) (w.alloc (.cells #[.int .u8 x] 5)).drew := conv_cell (w := (w.alloc (.cells #[.int .u8 x] 5)).drew) (cell_new w _ 5)
theorem conv_later {w w1 : World} {x : Int} (hb : Below (w.alloc (.cells #[.int .u8 x] 5)).drew.heap.size (w.alloc (.cells #[.int .u8 x] 5)).drew w1) : (convert 39 9 (.slice (some ⟨w.heap.size, 0, none⟩) 1 1)).run Tryd.prog w1 = .ok (.string (strOfNums [x])) w1 :=
  conv_cell ((hb.cell (p := ⟨w.heap.size, 0, none⟩) (by show w.heap.size < (w.heap.push _).size; simp)).trans (cell_new w _ 5))
theorem below_a {w w1 : World} (o : Obj) (hb : Below w.drew.heap.size w.drew w1) : Below w.heap.size w (w1.alloc o) := by
  have h : Below w.heap.size w w1 := ⟨hb.os, hb.tape, hb.output, hb.size, hb.block⟩
  exact h.alloc h.size o
theorem below_b {w w1 : World} (o : Obj) (hb : Below (w.alloc o).drew.heap.size (w.alloc o).drew w1) : Below w.heap.size w w1 := by
  have h1 : Below w.heap.size w (w.alloc o).drew := ((Below.refl _ w).alloc (Nat.le_refl _) o).drew
  have h2 : Below w.heap.size (w.alloc o).drew w1 := hb.mono (by show w.heap.size ≤ (w.heap.push o).size; simp)
  exact h1.trans h2
section
set_option maxHeartbeats 800000
set_option linter.unusedVariables false
set_option maxRecDepth 20000
theorem digits_zero (w : World) : Calls Tryd.prog 31 #[.int .i64 0] w fun e w' => e = .returned (.string ⟨#[]⟩) ∧ Below w.heap.size w w' := by
  go_enter Tryd.func31, Tryd.ntmps31
  go_wp2
  go_ret
  exact ⟨rfl, Below.refl _ _⟩
theorem digits_pos (v q r : Int) (t u : ByteArray) (w : World) (h0 : (v == 0) = false) (hp : 0 < v) (h1 : v ≤ 9223372036854775807) (hr : v % 10 = r) (hq : IntKind.i64.wrap (v.tdiv 10) = q) (r0 : 0 ≤ r) (r1 : r < 10) (ht : t.size ≤ 30)
    (hu : t ++ strOfNums [IntKind.u8.wrap (IntKind.i64.wrap (48 + r))] = u)
    (ih : ∀ w, Calls Tryd.prog 31 #[.int .i64 q] w fun e w' => e = .returned (.string t) ∧ Below w.heap.size w w') :
    Calls Tryd.prog 31 #[.int .i64 v] w fun e w' => e = .returned (.string u) ∧ Below w.heap.size w w' := by
  have IH : Hid (∀ w, Calls Tryd.prog 31 #[.int .i64 q] w fun e w' => e = .returned (.string t) ∧ Below w.heap.size w w') := ih
  have HQ : Hid (IntKind.i64.wrap (v.tdiv 10) = q) := hq
  have HU : Hid (t ++ strOfNums [IntKind.u8.wrap (IntKind.i64.wrap (48 + r))] = u) := hu
  clear ih hq hu
  have c1 := conv_now
  have c2 := conv_now'
  have ca : ∀ (x : Int) (w : World), (Op.stringOp .add t (strOfNums [x])).run Tryd.prog w = .ok (.string (t ++ strOfNums [x])) w := fun x w => run_string_add_sum _ _ _ (by rw [strOfNums_size]; simp; omega)
  go_enter Tryd.func31, Tryd.ntmps31
  go_wp2
  go_region_with (go_at_call 31; rw [HQ.out]; refine (IH.out _).mono ?_; rintro e w1 ⟨rfl, hb⟩; (try have hcv := conv_later hb))
  all_goals go_wp2
  all_goals go_ret
  all_goals exact ⟨by rw [← HU.out]; rfl, by first | exact below_a _ (by assumption) | exact below_b _ (by assumption)⟩
theorem digits_neg (v q s r : Int) (t u : ByteArray) (w : World) (h0 : (v == 0) = false) (hp : v < 0) (h1 : -9223372036854775808 ≤ v) (hs : v.tmod 10 = s) (s0 : s < 0) (s1 : -10 < s) (hr : -s = r) (hq : IntKind.i64.wrap (v.tdiv 10) = q) (ht : t.size ≤ 30)
    (hu : t ++ strOfNums [IntKind.u8.wrap (IntKind.i64.wrap (48 + r))] = u)
    (ih : ∀ w, Calls Tryd.prog 31 #[.int .i64 q] w fun e w' => e = .returned (.string t) ∧ Below w.heap.size w w') :
    Calls Tryd.prog 31 #[.int .i64 v] w fun e w' => e = .returned (.string u) ∧ Below w.heap.size w w' := by
  have IH : Hid (∀ w, Calls Tryd.prog 31 #[.int .i64 q] w fun e w' => e = .returned (.string t) ∧ Below w.heap.size w w') := ih
  have HQ : Hid (IntKind.i64.wrap (v.tdiv 10) = q) := hq
  have HU : Hid (t ++ strOfNums [IntKind.u8.wrap (IntKind.i64.wrap (48 + r))] = u) := hu
  clear ih hq hu
  have c1 := conv_now
  have c2 := conv_now'
  have ca : ∀ (x : Int) (w : World), (Op.stringOp .add t (strOfNums [x])).run Tryd.prog w = .ok (.string (t ++ strOfNums [x])) w := fun x w => run_string_add_sum _ _ _ (by rw [strOfNums_size]; simp; omega)
  go_enter Tryd.func31, Tryd.ntmps31
  go_wp2
  go_region_with (go_at_call 31; rw [HQ.out]; refine (IH.out _).mono ?_; rintro e w1 ⟨rfl, hb⟩; (try have hcv := conv_later hb))
  all_goals go_wp2
  all_goals go_ret
  all_goals exact ⟨by rw [← HU.out]; rfl, by first | exact below_a _ (by assumption) | exact below_b _ (by assumption)⟩
theorem digits_neg0 (v q : Int) (t u : ByteArray) (w : World) (h0 : (v == 0) = false) (hp : v < 0) (h1 : -9223372036854775808 ≤ v) (hs : v.tmod 10 = 0) (hq : IntKind.i64.wrap (v.tdiv 10) = q) (ht : t.size ≤ 30)
    (hu : t ++ strOfNums [IntKind.u8.wrap (IntKind.i64.wrap (48 + 0))] = u)
    (ih : ∀ w, Calls Tryd.prog 31 #[.int .i64 q] w fun e w' => e = .returned (.string t) ∧ Below w.heap.size w w') :
    Calls Tryd.prog 31 #[.int .i64 v] w fun e w' => e = .returned (.string u) ∧ Below w.heap.size w w' := by
  have IH : Hid (∀ w, Calls Tryd.prog 31 #[.int .i64 q] w fun e w' => e = .returned (.string t) ∧ Below w.heap.size w w') := ih
  have HQ : Hid (IntKind.i64.wrap (v.tdiv 10) = q) := hq
  have HU : Hid (t ++ strOfNums [IntKind.u8.wrap (IntKind.i64.wrap (48 + 0))] = u) := hu
  clear ih hq hu
  have c1 := conv_now
  have c2 := conv_now'
  have ca : ∀ (x : Int) (w : World), (Op.stringOp .add t (strOfNums [x])).run Tryd.prog w = .ok (.string (t ++ strOfNums [x])) w := fun x w => run_string_add_sum _ _ _ (by rw [strOfNums_size]; simp; omega)
  go_enter Tryd.func31, Tryd.ntmps31
  go_wp2
  go_region_with (go_at_call 31; rw [HQ.out]; refine (IH.out _).mono ?_; rintro e w1 ⟨rfl, hb⟩; (try have hcv := conv_later hb))
  all_goals go_wp2
  all_goals go_ret
  all_goals exact ⟨by rw [← HU.out]; rfl, by first | exact below_a _ (by assumption) | exact below_b _ (by assumption)⟩
end
end Go.Proofs.YtbeblgeiafkniaaDoor
