import Derived.RangeFuncNested
import Derived.RangeFuncBound
import Derived.RangeFuncCalls
import Derived.RangeFuncLeaves
import Derived.RangeFuncBox
import Derived.Shelf.Abstract
import Derived.WalkKit
import Derived.OwnWalkIn
import Derived.TacticsInMore
import Derived.LoopNIn
import Derived.LoopIn
import Derived.Sort.QuietIn
import Derived.Test.YtlajblbfelcalaaScCut
import Derived.Test.YtlajblbfelcalaaModWalks
/-! A region that draws its order, inside a round of a range over a function: the quiet walk. Then Each's iterator. -/
namespace Go.Proofs.Ytlajblbfelcalaa
set_option linter.unusedVariables false
set_option maxRecDepth 20000
open Go.RowKit Go.HeapKit Go.Shelf Go.PlainOps

def noDefer (o : Oper) : Bool := match o.op with | .defer _ => false | _ => true
theorem noDefer_ne {o : Oper} (h : noDefer o = true) : ∀ c, o.op ≠ .defer c := by
  intro c e
  simp [noDefer, e] at h
section
variable {F : Fence} {n : Nat} {P : Program} {ops : Array Oper} {md : Region.Mode} {C : World → Prop}
theorem op_quiet {o : Oper} {a : Act} {K : Act → Prop} {K' : Act → World → Prop} {Q' : Exit → Act → World → Prop} {w : World} (hd : ∀ c, o.op ≠ .defer c) (hw : C w) (h : ∀ a w', C w' → K a → K' a w')
    (ha : o.askedIn F P a C) (hh : o.quietIn F n P a C K) : o.wpIn F n P a w K' Q' := by
  obtain ⟨v, h1, h2⟩ := hh
  have h3 := h1 w hw
  unfold Oper.quietAtIn at h3
  unfold Oper.wpIn
  refine ⟨ha w hw, ?_⟩
  rw [Oper.semAt_eq _ _ _ hd]
  generalize (execOp a.eval o).run P w = r at *
  cases r with
  | ok x w' =>
    cases x <;> simp only [Oper.quietUponIn] at h3 <;> simp only [Oper.uponIn]
    case value u =>
      obtain ⟨e1, e2⟩ := h3
      rw [e1, e2]
      exact h _ _ hw h2
    case skip =>
      obtain ⟨e1, e2⟩ := h3
      rw [e1, ← e2]
      exact h _ _ hw h2
    case enter f args =>
      obtain ⟨e1, hd, hc⟩ := h3
      rw [e1]
      exact ⟨hd, hc.mono fun e w'' ⟨he, hw''⟩ => by subst he; exact h _ _ hw'' h2⟩
  | halt x w' => simp only [Oper.quietUponIn] at h3
theorem opn_quiet {i : Nat} {a : Act} {K : Act → Prop} {K' : Act → World → Prop} {Q' : Exit → Act → World → Prop} {w : World} (hd : ∀ (i : Nat) (o : Oper), ops[i]? = some o → ∀ c, o.op ≠ .defer c) (hC : C w) (h : ∀ a w', C w' → K a → K' a w')
    (hh : qOpIn F n P ops C i K a) : wpOpIn F n P ops Q' i K' a w := by
  unfold qOpIn at hh
  unfold wpOpIn
  split
  · rename_i ho; simp only [ho] at hh; exact h _ _ hC hh
  · rename_i o ho
    simp only [ho] at hh
    obtain ⟨ha, hh⟩ := hh
    split
    · rename_i hw; simp only [hw, if_true] at hh; exact op_quiet (hd i o ho) hC h ha hh
    · rename_i hw; simp only [hw] at hh; exact ⟨ha w hC, h _ _ hC hh⟩
theorem any_quiet {Q : Act → Prop} {Q' : Exit → Act → World → Prop} (hd : ∀ (i : Nat) (o : Oper), ops[i]? = some o → ∀ c, o.op ≠ .defer c) (hQ : ∀ a w, C w → Q a → Q' .normal a w) : ∀ (fuel : Nat) (listed : Array Bool) (a : Act) (w : World), C w →
    wpAnyQIn F n P md ops C Q fuel listed a → wpAnyIn F n P md ops Q' fuel listed a w
  | 0, _, _, _, hw, h => ⟨h.1, hQ _ _ hw h.2⟩
  | fuel + 1, _, _, _, hw, h => ⟨fun h0 => hQ _ _ hw (h.1 h0), fun i hi => opn_quiet hd hw (fun a' w' hw' => any_quiet hd hQ fuel _ a' w' hw') (h.2 i hi)⟩
end
/-- The quiet walk of a region within a round. -/
theorem region_quiet_round {F : Fence} {n : Nat} {P : Program} {id : Nat} {Q : Exit → Act → World → Prop} {a : Act} {w : World} {l : List Oper} (hd : l.all noDefer = true) (hm : P.follows .mixedOrders = true) (hB : Region.lexB .any l.toArray = true)
    (h : wpQuietIn F n P l.toArray (fun w' => ∃ n, w' = w.drewN n) (fun a' => ∀ w', (∃ n, w' = w.drewN n) → Q .normal a' w') l a) : (Code.region id l.toArray true).wpIn F n P Q a w := by
  simp only [Region.lexB, Bool.and_eq_true] at hB
  have hd' : ∀ (i : Nat) (o : Oper), l.toArray[i]? = some o → ∀ c, o.op ≠ .defer c := fun i o ho => by
    rw [List.getElem?_toArray] at ho
    exact noDefer_ne (List.all_eq_true.1 hd o (List.mem_of_getElem? ho))
  refine wpIn_region_any hm (any_quiet (C := fun w' => ∃ n, w' = w.drewN n) (Q := fun a' => ∀ w', (∃ n, w' = w.drewN n) → Q .normal a' w') hd' (fun _ w' hw' h => h w' hw') _ _ _ _ ⟨1, rfl⟩ ?_)
  have := wpAnyQIn_lex (F := F) (n := n) (C := fun w' => ∃ n, w' = w.drewN n) (md := .any) hB.1 l.toArray.toList 0 (Array.replicate l.toArray.size false) a (by simp) (by simpa using hB.2) (by simpa using h)
  simpa using this

attribute [local go_sem] Oper.semAt_some
/-- What Each gives: the pick's number, the worker. -/
def prs (W : Int) (l : List Int) : List (Int × Int) := l.mapIdx fun i x => ((i : Int), modV x W)
theorem prs_len (W : Int) (l : List Int) : (prs W l).length = l.length := by simp [prs]
theorem prs_at (W : Int) (l : List Int) (k : Nat) (x : Int) (h : l[k]? = some x) : (prs W l)[k]? = some ((k : Int), modV x W) := by simp [prs, h]
theorem prs_take (W : Int) (l : List Int) (k : Nat) (x : Int) (h : l[k]? = some x) : (prs W l).take (k + 1) = (prs W l).take k ++ [((k : Int), modV x W)] := by
  rw [List.take_add_one, prs_at W l k x h]; rfl
set_option maxRecDepth 100000 in
set_option maxHeartbeats 2000000 in
theorem each1 (n : Nat) (hn : 1 ≤ n) (l Bs Bw n₀ : Nat) (ap : Option Addr) (len cap : Nat) (xs : List Int) (V : Int) (hV : V ≤ 9223372036854775807) (hlen : len = xs.length) (hreach : len * 8 ≤ 140737488351232) (J Jx : List (Int × Int) → World → Prop)
    (hY : ∀ pre x W, J pre W → pre.length < len → YieldAt Fence.wide (n - 1) Try.prog l #[.int .i64 x.1, .int .i64 x.2] W fun e W' =>
      (e = .returned (.bool true) ∧ J (pre ++ [x]) W' ∧ Below n₀ W W') ∨ (e = .returned (.bool false) ∧ Jx (pre ++ [x]) W'))
    (W : World) (hBs : W.cell? ⟨Bs, 0, none⟩ = some (.slice ap len cap)) (hBw : W.cell? ⟨Bw, 0, none⟩ = some (.int .i64 V)) (hbw : Bw < n₀)
    (hc : 0 < len → ∃ b off, ap = some ⟨b, off, none⟩ ∧ b < n₀ ∧ ∀ k x, xs[k]? = some x → W.cell? ⟨b, off + k, none⟩ = some (.int .i64 x)) (h0 : J [] W) :
    CallsIn Fence.wide n Try.prog 32 #[.func (.yield l) #[] #[], .pointer (some ⟨Bs, 0, none⟩), .pointer (some ⟨Bw, 0, none⟩)] W fun e W' => (∃ v, e = .returned v) ∧ (J (prs V xs) W' ∨ ∃ pre, pre = (prs V xs).take pre.length ∧ Jx pre W') := by
  have HL : Hid (len = xs.length) := hlen
  have HW : Hid (W.cell? ⟨Bw, 0, none⟩ = some (.int .i64 V)) := hBw
  clear hlen hBw
  refine callsIn_of_wp Try.func32 rfl trivial ?_ rfl
  simp only [Try.ntmps32, List.size_toArray, List.length_cons, List.length_nil, Nat.reduceAdd, Nat.reduceSub, Array.replicate_succ, Array.replicate_zero, List.push_toArray, List.append_toArray, List.nil_append, List.cons_append]
  gi_wp2
  gi_loopw [8] (fun i wr => ∃ k : Nat, k ≤ len ∧ i = .int .i64 k ∧ J ((prs V xs).take k) wr ∧ Below n₀ W wr) (fun i _ => len - (intOf i).toNat)
  case atStart => exact ⟨0, Nat.zero_le _, rfl, h0, Below.refl _ _⟩
  case round =>
    obtain ⟨k, hk, rfl, hJs, hnx⟩ := hrel
    by_cases hlt : k < len
    · obtain ⟨b, off, rfl, hb, hcc⟩ := hc (by omega)
      obtain ⟨x, hx⟩ : ∃ x, xs[k]? = some x := ⟨xs[k]'(by have := HL.out; omega), by simp⟩
      obtain ⟨fn, tmps, assign, body, hy, hR⟩ := hY _ ((k : Int), modV x V) wr hJs (by have := HL.out; have := prs_len V xs; simp; omega)
      dsimp only at hy
      have hcx' : wr.cell? ⟨b, off + k, none⟩ = some (.int .i64 x) := (hnx.cell (p := ⟨b, off + k, none⟩) hb).trans (hcc k x hx)
      have hcw' : wr.cell? ⟨Bw, 0, none⟩ = some (.int .i64 V) := (hnx.cell (p := ⟨Bw, 0, none⟩) hbw).trans HW.out
      have HX : Hid ((prs V xs).take (k + 1) = (prs V xs).take k ++ [((k : Int), modV x V)]) := prs_take V xs k x hx
      have HK : Hid (k + 1 ≤ (prs V xs).length) := by rw [prs_len, ← HL.out]; exact hlt
      have hM : CallsIn Fence.wide (n - 1) Try.prog 33 #[.int .i64 x, .int .i64 V] wr fun e w' => e = .returned (.int .i64 (modV x V)) ∧ w' = wr := callsIn_wide.2 (mod_any x V wr hV)
      clear hcc hx
      gi_wp2_with (refine ⟨trivial, ?_⟩; gi_at_call 33; refine hM.mono ?_; rintro _ _ ⟨rfl, rfl⟩)
      refine hR.mono ?_
      rintro e W3 (⟨rfl, hJ3, hk3⟩ | ⟨rfl, hJx3⟩)
      · gi_wp2
        go_roundw
        case rel => exact ⟨k + 1, by omega, by simp, by rw [HX.out]; exact hJ3, hnx.trans hk3⟩
        case measure => simp [intOf]; omega
      · gi_wp2
        refine bodyPost_ret (results_none rfl _ _ _) rfl ?_
        refine ⟨⟨_, rfl⟩, .inr ⟨_, ?_, hJx3⟩⟩
        rw [← HX.out, List.length_take, Nat.min_eq_left HK.out]
    · obtain rfl : k = len := by omega
      have HX : Hid ((prs V xs).take k = prs V xs) := by show _ = _; rw [HL.out, ← prs_len V xs]; exact List.take_length
      clear HL
      gi_wp2
      go_end0
      exact ⟨⟨_, rfl⟩, .inl (by rw [HX.out] at hJs; exact hJs)⟩
theorem each_stops (n : Nat) (hn : 1 ≤ n) (Bs Bw n₀ : Nat) (ap : Option Addr) (len cap : Nat) (xs : List Int) (V : Int) (hV : V ≤ 9223372036854775807) (hlen : len = xs.length) (hreach : len * 8 ≤ 140737488351232) (w : World) (hBs : Bs < w.heap.size) (hbw : Bw < n₀) (hn₀ : n₀ ≤ w.heap.size)
    (hc : w.cell? ⟨Bs, 0, none⟩ = some (.slice ap len cap)) (hcw : w.cell? ⟨Bw, 0, none⟩ = some (.int .i64 V)) (hI : 0 < len → ∃ b off, ap = some ⟨b, off, none⟩ ∧ b < n₀ ∧ ∀ k x, xs[k]? = some x → w.cell? ⟨b, off + k, none⟩ = some (.int .i64 x)) :
    SeqStopsK Fence.wide n Try.prog 32 #[.pointer (some ⟨Bs, 0, none⟩), .pointer (some ⟨Bw, 0, none⟩)] (fun x : Int × Int => #[Value.int .i64 x.1, Value.int .i64 x.2]) (Below n₀) (fun ys => ys = prs V xs) (fun pre => pre = (prs V xs).take pre.length) len w := fun l J Jx W hW _ _ hY h0 => by
  have hc' := (hW.cell (p := ⟨Bs, 0, none⟩) hBs).trans hc
  have hcw' := (hW.cell (p := ⟨Bw, 0, none⟩) (Nat.lt_of_lt_of_le hbw hn₀)).trans hcw
  refine (each1 n hn l Bs Bw n₀ ap len cap xs V hV hlen hreach J Jx hY W hc' hcw' hbw (fun h => ?_) h0).mono ?_
  · obtain ⟨b, off, e, hb, hcc⟩ := hI h
    exact ⟨b, off, e, hb, fun k x hx => (hW.cell (p := ⟨b, off + k, none⟩) (Nat.lt_of_lt_of_le hb hn₀)).trans (hcc k x hx)⟩
  · rintro e W' ⟨he, hj | ⟨pre, hp, hj⟩⟩
    · exact ⟨he, .inl ⟨_, rfl, hj⟩⟩
    · exact ⟨he, .inr ⟨_, hp, hj⟩⟩
end Go.Proofs.Ytlajblbfelcalaa
