import Derived.Test.YtfccnmgbdkideaaDoorSwSim
/-! 'asksPed'. -/
namespace Go.Proofs.YtfccnmgbdkideaaDoor
set_option linter.unusedVariables false
set_option maxRecDepth 20000
open Go.RowKit Go.HeapKit Go.PlainOps

def AskPost (l : List Fn) (w : World) (e : Ending) (w' : World) : Prop := ∃ b : Bool, e = .returned (.bool b) ∧ (b = false → noPed l) ∧ Keeps None w w'
set_option maxHeartbeats 2000000 in
theorem asks_any (a : Option Addr) (n c : Nat) (l : List Fn) (w : World) (hS : SeenF w a n l) (hn : n ≤ 32) (hm : ∀ f ∈ l, f.code.length ≤ 512) :
    Calls Tryd.prog 6 #[.agg #[.slice a n c]] w (AskPost l w) := by
  obtain ⟨B, hB⟩ : ∃ B, B = w.heap.size := ⟨_, rfl⟩
  have b1 := heap_alloc_new w (.cells #[.slice a n c] 24)
  have hk1 := Keeps.alloc None w (.cells #[.slice a n c] 24)
  obtain ⟨W, hW⟩ : ∃ W, W = w.alloc (.cells #[.slice a n c] 24) := ⟨_, rfl⟩
  rw [← hW, ← hB] at b1
  rw [← hW] at hk1
  have d0 : W.cell? ⟨B, 0, none⟩ = some (.slice a n c) := (blk_cell b1 0).trans rfl
  have HC : Hid (Keeps None w W ∧ SeenF W a n l ∧ (∀ f ∈ l, f.code.length ≤ 512) ∧ n = l.length ∧ W.cell? ⟨B, 0, none⟩ = some (.slice a n c)) := ⟨hk1, hS.more hk1, hm, hS.len, d0⟩
  clear hk1 hS hm b1
  go_enter Tryd.func6, Tryd.ntmps6
  go_upto_region 1 with fail
  rw [← hW, ← hB]
  clear hW hB
  go_wp2_with fail
  clear d0
  go_loopw [3] (fun s3 wr => ∃ i : Nat, i ≤ n ∧ s3 = .int .i64 i ∧ wr = W ∧ ∀ j f, j < i → l[j]? = some f → ∀ x ∈ f.code, x.kind ≠ 8) (fun i _ => n - (intOf i).toNat)
  case atStart => exact ⟨0, Nat.zero_le _, rfl, rfl, fun j f hj => by omega⟩
  case round =>
    obtain ⟨i, hi, rfl, hwr, hno⟩ := hrel
    subst hwr
    have d1 := HC.out.2.2.2.2
    by_cases hin : i < n
    · have i1 : (i : Int) < (n : Int) := by omega
      obtain ⟨b, off, f, ca, cc, rfl, hf, hat⟩ := HC.out.2.1.at hin
      obtain ⟨m, hme⟩ : ∃ m, m = f.code.length := ⟨_, rfl⟩
      have c1 := hat.code
      have hse := hat.seen
      rw [← hme] at c1 hse
      have hmb : m ≤ 512 := by rw [hme]; exact HC.out.2.2.1 f (List.mem_of_getElem? hf)
      have HI : Hid ((∀ j f, j < i → l[j]? = some f → ∀ x ∈ f.code, x.kind ≠ 8) ∧ l[i]? = some f ∧ m = f.code.length ∧ SeenI wr ca m f.code) := ⟨hno, hf, hme, hse⟩
      clear hno hf hme hse hat
      go_wp2_with fail
      go_loopw [4] (fun s4 wx => ∃ k : Nat, k ≤ m ∧ s4 = .int .i64 k ∧ wx = wr ∧ ∀ q x, q < k → f.code[q]? = some x → x.kind ≠ 8) (fun i _ => m - (intOf i).toNat)
      case atStart => exact ⟨0, Nat.zero_le _, rfl, rfl, fun q x hq => by omega⟩
      case round =>
        obtain ⟨k, hk, rfl, hwx, hnk⟩ := hrel
        subst hwx
        by_cases hkm : k < m
        · have i2 : (k : Int) < (m : Int) := by omega
          obtain ⟨cb, co, rfl, hcb, hins⟩ := HI.out.2.2.2.ex (by omega)
          obtain ⟨x, hx⟩ : ∃ x, f.code[k]? = some x := ⟨f.code[k]'(by have := HI.out.2.2.1; omega), by simp⟩
          have y0 := (hins k x hx).kind
          have HX : Hid (f.code[k]? = some x ∧ ∀ q x, q < k → f.code[q]? = some x → x.kind ≠ 8) := ⟨hx, hnk⟩
          clear hins hx hnk hcb
          by_cases h8 : x.kind = 8
          · have q1 : (x.kind == 8) = true := by simpa using h8
            clear h8
            go_wp2_with fail
            go_ret
            exact ⟨true, rfl, (fun h => by cases h), HC.out.1⟩
          · have q1 : (x.kind == 8) = false := by simpa using h8
            have H8 : Hid _ := h8
            clear h8
            go_wp2_with fail
            exact ⟨⟨k + 1, by omega, by simp, trivial, fun q z hq hz => by
              by_cases hqk : q = k
              · subst hqk; rw [HX.out.1] at hz; obtain rfl := Option.some.inj hz; exact H8.out
              · exact HX.out.2 q z (by omega) hz⟩, by simp [intOf]; omega⟩
        · have i2 : ¬ ((m : Int) < (m : Int)) := by omega
          have hkm2 : m = k := by omega
          subst hkm2
          have HX : Hid (∀ q x, q < m → f.code[q]? = some x → x.kind ≠ 8) := hnk
          clear hnk
          go_wp2_with fail
          exact ⟨⟨i + 1, by omega, by simp, trivial, fun j f' hj hf' x hx => by
            by_cases hji : j = i
            · subst hji
              rw [HI.out.2.1] at hf'
              obtain rfl := Option.some.inj hf'
              obtain ⟨q, hq, e⟩ := List.getElem_of_mem hx
              exact HX.out q x (by have := HI.out.2.2.1; omega) (by rw [List.getElem?_eq_getElem hq, e])
            · exact HI.out.1 j f' (by omega) hf' x hx⟩, by simp [intOf]; omega⟩
    · have i1 : ¬ ((n : Int) < (n : Int)) := by omega
      have hin2 : n = i := by omega
      subst hin2
      have HX : Hid (∀ j f, j < n → l[j]? = some f → ∀ x ∈ f.code, x.kind ≠ 8) := hno
      clear hno
      go_wp2_with fail
      go_ret
      refine ⟨false, rfl, fun _ f hf x hx => ?_, HC.out.1⟩
      obtain ⟨j, hj, e⟩ := List.getElem_of_mem hf
      exact HX.out j f (by have := HC.out.2.2.2.1; omega) (by rw [List.getElem?_eq_getElem hj, e]) x hx
end Go.Proofs.YtfccnmgbdkideaaDoor
