import Derived.Test.YtcjmceedkfjbeaaDoorPkAI
import Derived.Test.YtcjmceedkfjbeaaDoorPkAO
import Derived.OwnWalk
import Derived.Deep.Cut
import Derived.WalkMore
/-! Decode of words with a wrong sum. -/
namespace Go.Proofs.YtcjmceedkfjbeaaDoor
set_option linter.unusedVariables false
set_option maxRecDepth 20000
open Go.RowKit Go.HeapKit

theorem SeenW.take {w : World} {a : Option Addr} {n : Nat} {zs : List Int} (h : SeenW w a n zs) (k : Nat) (hk : k ≤ n) : SeenW w a k (zs.take k) := by
  have hl := h.len
  have hm := h.most
  refine ⟨by simp; omega, by omega, fun x hx => h.ok x (List.mem_of_mem_take hx), fun h0 => ?_⟩
  obtain ⟨b, off, rfl, hb, hc⟩ := h.ex (by omega)
  refine ⟨b, off, rfl, hb, fun j x hx => hc j x ?_⟩
  rw [List.getElem?_take] at hx
  split at hx
  · exact hx
  · cases hx
set_option maxHeartbeats 1000000 in
theorem read_bad (a : Option Addr) (n c : Nat) (zs : List Int) (w : World) (hS : SeenW w a n zs) (hn : 3 ≤ n) (hc : n ≤ c) (x : Int) (hx : zs[n - 1]? = some x) (hb : ¬ x = sumV (zs.take (n - 1))) :
    Calls Tryd.prog 21 #[.slice a n c] w fun e w' => e = .panicked (thrown 58 0 0) ∧ Keeps None w w' := by
  obtain ⟨b, off, rfl, hlt, hcell⟩ := hS.ex (by omega)
  obtain ⟨m, rfl⟩ : ∃ m, n = m + 1 := ⟨n - 1, by omega⟩
  simp only [Nat.add_sub_cancel] at hx hb
  have hal := Keeps.alloc None w (.cells #[.slice none 0 0] 25)
  have y := hal.cell (hcell m x hx) (fun f => f)
  have hsm := fun wx (hk : Keeps None w wx) => sum_any (some ⟨b, off, none⟩) m c (zs.take m) wx ((hS.more hk).take m (by omega))
  obtain ⟨s, hs⟩ : ∃ s, s = sumV (zs.take m) := ⟨_, rfl⟩
  rw [← hs] at hsm hb
  have hb' : (x != s) = true := by simpa using hb
  have hmost := hS.most
  have i1 : (3 : Int) ≤ ((m + 1 : Nat) : Int) := by omega
  have i2 : wrap64 (((m + 1 : Nat) : Int) - 1) = (m : Int) := by unfold wrap64; omega
  have i3 : (m : Int) < ((m + 1 : Nat) : Int) := by omega
  have i4 : (m : Int) ≤ (c : Int) := by omega
  have i5 : (0 : Int) ≤ (m : Int) := by omega
  have HH : Hid (Keeps None w (w.alloc (.cells #[.slice none 0 0] 25))) := hal
  have HSM : Hid _ := hsm
  clear hS hcell hx hs hal hsm
  go_enter Tryd.func21, Tryd.ntmps21
  go_upto_region 4 with fail
  go_quiet ((go_at_call 26; exact Calls.quiet_of_same (HSM.out _ (HH.out.trans (Keeps.drewN None _ _) (fun _ f _ => f)))))
  go_wp2_with (go_at_call 35; refine (giveUp_any _ _ _ _).mono ?_; rintro e w' ⟨rfl, hw⟩; have hw2 := hw.symm; subst hw2)
  exact ⟨rfl, rfl, HH.out.trans (Keeps.drewN None _ _) (fun _ f _ => f)⟩
theorem decode_bad (a : Option Addr) (n c : Nat) (zs : List Int) (w : World) (hS : SeenW w a n zs) (hn : 3 ≤ n) (hc : n ≤ c) (x : Int) (hx : zs[n - 1]? = some x) (hb : ¬ x = sumV (zs.take (n - 1))) :
    Calls Tryd.prog 6 #[.slice a n c] w fun e w' => e = .returned (.tuple #[.agg #[.slice none 0 0], .int .i64 58]) ∧ Keeps None w w' := by
  have hmf : ∀ (fn : Go.Fn) (first cap : Array Value) (w : World), (Instr.makeFunc fn first cap).run Tryd.prog w = .ok (.func fn first cap) w := fun _ _ _ _ => rfl
  obtain ⟨b1, b2⟩ := two_boxes w #[.slice none 0 0] #[.int .i64 0] 25 26
  have hk2 := keeps2 w (.cells #[.slice none 0 0] 25) (.cells #[.int .i64 0] 26)
  have hrd := read_bad a n c zs _ (hS.more hk2) hn hc x hx hb
  have HO : Hid (IsOut ((w.alloc (.cells #[.slice none 0 0] 25)).alloc (.cells #[.int .i64 0] 26)) w.heap.size (w.heap.size + 1) (.slice none 0 0) 0 ∧ Keeps None w ((w.alloc (.cells #[.slice none 0 0] 25)).alloc (.cells #[.int .i64 0] 26))) := ⟨⟨b1, b2⟩, hk2⟩
  clear b1 b2 hk2 hS hx hb
  go_enter_defers Tryd.func6, Tryd.ntmps6
  go_wp2_with (go_at_call 21; refine hrd.mono ?_; rintro _ w3 ⟨rfl, hk3⟩)
  exact dout_panic rfl rfl (HO.out.1.kept hk3) rfl (fun w' hk => ⟨rfl, (HO.out.2.trans hk3 (fun _ f _ => f)).trans hk (fun i e hi => by omega)⟩)
end Go.Proofs.YtcjmceedkfjbeaaDoor
/-! Decode of any words. -/
namespace Go.Proofs.YtcjmceedkfjbeaaDoor
set_option linter.unusedVariables false
set_option maxRecDepth 20000
open Go.RowKit Go.HeapKit

/-- What Decode answers: the error, and the functions where there is none. -/
def decV (zs : List Int) : Int × List Fn :=
  if zs.length < 3 then (57, []) else
  if zs.getD (zs.length - 1) 0 ≠ sumV (zs.take (zs.length - 1)) then (58, []) else
  match readP (zs.take (zs.length - 1)) with
  | none => (57, [])
  | some fs => if (checkV fs).1 = 0 then (0, fs) else ((checkV fs).1, [])
theorem decode_at (a : Option Addr) (n c : Nat) (zs : List Int) (w : World) (hT : Tabs w) (hS : SeenW w a n zs) (hc : n ≤ c) (hcm : c ≤ maxLen) :
    Calls Tryd.prog 6 #[.slice a n c] w fun e w' => Keeps None w w' ∧ (((decV zs).1 ≠ 0 ∧ (decV zs).2 = [] ∧ e = .returned (.tuple #[.agg #[.slice none 0 0], .int .i64 (decV zs).1])) ∨
      ((decV zs).1 = 0 ∧ ∃ gb m E, e = .returned (.tuple #[.agg #[.slice (some ⟨gb, 0, none⟩) m m], .int .i64 0]) ∧ DecM w.heap.size w' gb m E (decV zs).2)) := by
  have hlen := hS.len
  by_cases hn : n < 3
  · have hd : decV zs = (57, []) := by unfold decV; rw [if_pos (by omega)]
    rw [hd]
    refine (decode_panic a n c w (fun wx _ => read_short _ _ _ wx hn)).mono ?_
    rintro e w' ⟨rfl, hk⟩
    exact ⟨hk, .inl ⟨by simp, rfl, rfl⟩⟩
  · obtain ⟨b, off, rfl, _, _⟩ := hS.ex (by omega)
    obtain ⟨n, rfl⟩ : ∃ k, n = k + 1 := ⟨n - 1, by omega⟩
    have hl1 : zs.length - 1 = n := by omega
    obtain ⟨x, hx⟩ : ∃ x, zs[n]? = some x := ⟨zs[n]'(by omega), List.getElem?_eq_getElem _⟩
    have hxd : zs.getD (zs.length - 1) 0 = x := by rw [hl1, List.getD_eq_getElem?_getD, hx]; rfl
    by_cases hb : x = sumV (zs.take n)
    · cases hr : readP (zs.take n) with
      | none =>
        have hd : decV zs = (57, []) := by
          unfold decV
          rw [if_neg (by omega), hxd, hl1, if_neg (by simpa using hb), hr]
        rw [hd]
        obtain ⟨z0, z1, r, hz⟩ : ∃ z0 z1 r, zs.take n = z0 :: z1 :: r := by
          match hq : zs.take n with
          | [] => have := congrArg List.length hq; rw [List.length_take] at this; simp only [List.length_nil] at this; omega
          | [_] => have := congrArg List.length hq; rw [List.length_take] at this; simp only [List.length_cons, List.length_nil] at this; omega
          | z0 :: z1 :: r => exact ⟨z0, z1, r, rfl⟩
        rw [hz] at hr
        refine (decode_panic _ (n + 1) c w (fun wx hk => read_form b off n c zs x z0 z1 r wx (hS.more hk) (by omega) hc hcm hx hb hz hr)).mono ?_
        rintro e w' ⟨rfl, hk⟩
        exact ⟨hk, .inl ⟨by simp, rfl, rfl⟩⟩
      | some fs =>
        obtain ⟨m, r, hz, h1, h2, hrf, hfl, himg⟩ := readP_some hr
        have hok := fns_ok (fs := fs) (by rw [← himg]; exact fun y hy => hS.ok y (List.mem_of_mem_take hy))
        by_cases hck : (checkV fs).1 = 0
        · have hd : decV zs = (0, fs) := by
            unfold decV
            rw [if_neg (by omega), hxd, hl1, if_neg (by simpa using hb), hr]
            simp only
            rw [if_pos hck]
          rw [hd]
          refine (decode_goodM b off n c zs r m fs x w hT hS (by omega) hc hcm hx hb hz h1 h2 hrf hfl hok (check_zero hck)).mono ?_
          rintro e w' ⟨gb, E, rfl, hM, hk⟩
          exact ⟨hk, .inr ⟨rfl, gb, m, E, rfl, hM⟩⟩
        · have hd : decV zs = ((checkV fs).1, []) := by
            unfold decV
            rw [if_neg (by omega), hxd, hl1, if_neg (by simpa using hb), hr]
            simp only
            rw [if_neg hck]
          rw [hd]
          obtain ⟨e1, e2, e3, hE⟩ : ∃ e1 e2 e3, checkV fs = (e1, e2, e3) := ⟨_, _, _, rfl⟩
          have h1e : (checkV fs).1 = e1 := by rw [hE]
          rw [h1e] at hck ⊢
          refine (decode_fault b off n c zs r m fs x w hT hS (by omega) hc hcm hx hb hz h1 h2 hrf hfl hok e1 e2 e3 hE (by simpa using hck)).mono ?_
          rintro e w' ⟨rfl, hk⟩
          exact ⟨hk, .inl ⟨hck, rfl, rfl⟩⟩
    · have hd : decV zs = (58, []) := by
        unfold decV
        rw [if_neg (by omega), hxd, hl1, if_pos hb]
      rw [hd]
      refine (decode_bad (some ⟨b, off, none⟩) (n + 1) c zs w hS (by omega) hc x (by simpa using hx) (by simpa using hb)).mono ?_
      rintro e w' ⟨rfl, hk⟩
      exact ⟨hk, .inl ⟨by simp, rfl, rfl⟩⟩
/-- How far the words reach tells whether code can be read. -/
theorem readCode_short : ∀ (n : Nat) (zs : List Int), zs.length < n * 5 → readCode n zs = none
  | 0, zs, h => by omega
  | n + 1, zs, h => by
    simp only [readCode]
    match zs, h with
    | [], _ => rfl
    | [_], _ => rfl
    | [_, _], _ => rfl
    | [_, _, _], _ => rfl
    | [_, _, _, _], _ => rfl
    | a :: b :: c :: d :: e :: r, h =>
      simp only [readIns, Option.bind_some]
      rw [readCode_short n r (by simp only [List.length_cons] at h; omega)]
      rfl
theorem readCode_long : ∀ (n : Nat) (zs : List Int), n * 5 ≤ zs.length → ∃ c, readCode n zs = some (c, zs.drop (n * 5)) ∧ c.length = n ∧ ∀ k, k < n → c[k]? = some ⟨zs.getD (k * 5) 0, zs.getD (k * 5 + 1) 0, zs.getD (k * 5 + 2) 0, zs.getD (k * 5 + 3) 0, zs.getD (k * 5 + 4) 0⟩
  | 0, zs, _ => ⟨[], by simp [readCode], rfl, fun k hk => by omega⟩
  | n + 1, zs, h => by
    match zs, h with
    | [], h => simp at h
    | [_], h => simp at h; omega
    | [_, _], h => simp at h; omega
    | [_, _, _], h => simp at h; omega
    | [_, _, _, _], h => simp at h; omega
    | a :: b :: c :: d :: e :: r, h =>
      obtain ⟨cs, h1, h2, h3⟩ := readCode_long n r (by simp only [List.length_cons] at h; omega)
      refine ⟨⟨a, b, c, d, e⟩ :: cs, ?_, by simp [h2], fun k hk => ?_⟩
      · simp only [readCode, readIns, Option.bind_some, h1, Option.map_some]
        rw [show (n + 1) * 5 = n * 5 + 1 + 1 + 1 + 1 + 1 by omega]
        rfl
      · cases k with
        | zero => rfl
        | succ k =>
          have := h3 k (by omega)
          rw [List.getElem?_cons_succ, this, show (k + 1) * 5 = k * 5 + 1 + 1 + 1 + 1 + 1 by omega]
          rfl
end Go.Proofs.YtcjmceedkfjbeaaDoor
/-! Programs in memory of their own. -/
namespace Go.Proofs.YtcjmceedkfjbeaaDoor
set_option linter.unusedVariables false
set_option maxRecDepth 20000
open Go.RowKit Go.HeapKit

def insVals (l : List Ins) : List Value := l.flatMap insCells
theorem insVals_length (l : List Ins) : (insVals l).length = l.length * 5 := by
  induction l with
  | nil => rfl
  | cons x l ih => simp only [insVals, List.flatMap_cons, List.length_append, List.length_cons] at ih ⊢; rw [ih]; simp [insCells]; omega
theorem insVals_append (a b : List Ins) : insVals (a ++ b) = insVals a ++ insVals b := by simp [insVals]
theorem insVals_at (l : List Ins) (k : Nat) (x : Ins) (h : l[k]? = some x) (j : Nat) (v : Value) (hj : (insCells x)[j]? = some v) : (insVals l)[k * 5 + j]? = some v := by
  have hj5 : j < 5 := (List.getElem?_eq_some_iff.1 hj).1
  induction l generalizing k with
  | nil => simp at h
  | cons z l ih =>
    have e : insVals (z :: l) = insCells z ++ insVals l := rfl
    have hz : (insCells z).length = 5 := rfl
    rw [e]
    cases k with
    | zero =>
      simp at h
      subst h
      rw [List.getElem?_append_left (by omega), Nat.zero_mul, Nat.zero_add]
      exact hj
    | succ k =>
      rw [List.getElem?_append_right (by omega), show (k + 1) * 5 + j - (insCells z).length = k * 5 + j by omega]
      exact ih k (by simpa using h)
theorem insVals_set (l : List Ins) (k : Nat) (x : Ins) (hk : k < l.length) :
    (((((insVals l).set (k * 5) (.int .i64 x.kind)).set (k * 5 + 1) (.int .i64 x.a)).set (k * 5 + 2) (.int .i64 x.b)).set (k * 5 + 3) (.int .i64 x.c)).set (k * 5 + 4) (.int .i64 x.k) = insVals (l.set k x) := by
  induction l generalizing k with
  | nil => simp at hk
  | cons y l ih =>
    have e : insVals (y :: l) = [Value.int .i64 y.kind, .int .i64 y.a, .int .i64 y.b, .int .i64 y.c, .int .i64 y.k] ++ insVals l := rfl
    cases k with
    | zero => rfl
    | succ k =>
      have h1 := ih k (by simpa using hk)
      have e2 : insVals ((y :: l).set (k + 1) x) = [Value.int .i64 y.kind, .int .i64 y.a, .int .i64 y.b, .int .i64 y.c, .int .i64 y.k] ++ insVals (l.set k x) := rfl
      rw [e, e2, ← h1, show (k + 1) * 5 = k * 5 + 5 by omega]
      rfl
/-- A list of instructions in a block of its own. -/
def IsC (w : World) (g : Nat) (l : List Ins) : Prop := w.heap[g]? = some (.cells (insVals l).toArray 42 (0, 0))
theorem IsC.kept {w w' : World} {S : Nat → Prop} {g : Nat} {l : List Ins} (h : IsC w g l) (hk : Keeps S w w') (hS : ¬ S g) : IsC w' g l := blk_kept h hk hS
theorem IsC.at {w : World} {g : Nat} {l : List Ins} (h : IsC w g l) {k : Nat} {x : Ins} (hx : l[k]? = some x) : InsAt w g (k * 5) x := by
  have q : ∀ (j : Nat) (v : Value), (insCells x)[j]? = some v → w.cell? ⟨g, k * 5 + j, none⟩ = some v := fun j v hv => by
    rw [blk_cell h]
    simpa using insVals_at l k x hx j v hv
  exact ⟨q 0 _ rfl, q 1 _ rfl, q 2 _ rfl, q 3 _ rfl, q 4 _ rfl⟩
abbrev set5 (w : World) (g o : Nat) (x : Ins) : World := ((((w.setCell ⟨g, o, none⟩ (.int .i64 x.kind)).setCell ⟨g, o + 1, none⟩ (.int .i64 x.a)).setCell ⟨g, o + 2, none⟩ (.int .i64 x.b)).setCell ⟨g, o + 3, none⟩ (.int .i64 x.c)).setCell ⟨g, o + 4, none⟩ (.int .i64 x.k)
theorem set5_keeps (w : World) (g o : Nat) (x : Ins) : Keeps (· = g) w (set5 w g o x) :=
  (((((Keeps.refl (· = g) w).andSet (x := ⟨g, o, none⟩) (.inl rfl) (.int .i64 x.kind)).andSet (x := ⟨g, o + 1, none⟩) (.inl rfl) (.int .i64 x.a)).andSet (x := ⟨g, o + 2, none⟩) (.inl rfl) (.int .i64 x.b)).andSet (x := ⟨g, o + 3, none⟩) (.inl rfl) (.int .i64 x.c)).andSet (x := ⟨g, o + 4, none⟩) (.inl rfl) (.int .i64 x.k)
theorem IsC.set {w : World} {g : Nat} {l : List Ins} (h : IsC w g l) (k : Nat) (x : Ins) (hk : k < l.length) : IsC (set5 w g (k * 5) x) g (l.set k x) := by
  unfold IsC set5 at *
  rw [blk_set (blk_set (blk_set (blk_set (blk_set h _) _) _) _) _, ← insVals_set l k x hk]
  simp
theorem IsC.seen {w : World} {g : Nat} {l : List Ins} (h : IsC w g l) {m : List Ins} {n : Nat} (hn : n = m.length) (hm : ∀ (k : Nat) i, m[k]? = some i → l[k]? = some i) : SeenI w (some ⟨g, 0, none⟩) n m :=
  ⟨hn, fun _ => ⟨g, 0, rfl, blk_lt h, fun k i hi => by rw [Nat.zero_add]; exact h.at (hm k i hi)⟩⟩
theorem codes_seen {w : World} {v : Value} {l : List Ins} (h : w.ownsRow 0 42 5 v l.length (insVals l)) : ∃ ca cc, v = .slice ca l.length cc ∧ SeenI w ca l.length l := by
  rcases h.2 with ⟨rfl, h0⟩ | ⟨g, cap, cur, rfl, hb, hg, hn, hm, hc, ht⟩
  · exact ⟨none, 0, by rw [h0], ⟨rfl, fun h => by omega⟩⟩
  · refine ⟨_, cap, rfl, ⟨rfl, fun _ => ⟨g, 0, rfl, blk_lt hg, fun k i hi => ?_⟩⟩⟩
    have q : ∀ (j : Nat) (v : Value), (insCells i)[j]? = some v → w.cell? ⟨g, 0 + k * 5 + j, none⟩ = some v := fun j v hv => by
      have h1 := insVals_at l k i hi j v hv
      rw [← ht, List.getElem?_take] at h1
      split at h1
      · rw [blk_cell hg, Nat.zero_add]; simpa using h1
      · cases h1
    exact ⟨q 0 _ rfl, q 1 _ rfl, q 2 _ rfl, q 3 _ rfl, q 4 _ rfl⟩
def zeroI : Ins := ⟨0, 0, 0, 0, 0⟩
def oddI (j : Int) : Ins := ⟨70 + j, -1, -2, -3, -4⟩
theorem Tryd.infoIns : (Tryd.prog.info? 42).map (fun i => (i.zero, i.size, i.bytes)) = some (some (.agg #[.int .i64 0, .int .i64 0, .int .i64 0, .int .i64 0, .int .i64 0]), 5, 40) := by kernel_rfl
theorem insVals_zero (m : Nat) : insVals (List.replicate m zeroI) = List.replicate (m * 5) (.int .i64 0) := by
  induction m with
  | zero => rfl
  | succ m ih =>
    rw [List.replicate_succ, show (m + 1) * 5 = m * 5 + 1 + 1 + 1 + 1 + 1 by omega, List.replicate_succ, List.replicate_succ, List.replicate_succ, List.replicate_succ, List.replicate_succ, ← ih]
    rfl
theorem codes_made (w : World) (n : Nat) (hn : n * 40 ≤ 140737488355328) : ∃ w', (Instr.makeSlice 38 (.int .i64 n) (.int .i64 n)).run Tryd.prog w = .ok (.slice (some ⟨w.heap.size, 0, none⟩) n n) w' ∧ IsC w' w.heap.size (List.replicate n zeroI) ∧ Keeps None w w' := by
  obtain ⟨i0, hi, hz0, hz1, hz2⟩ := info_parts Tryd.infoIns
  obtain ⟨M, hM, _, hr⟩ := run_make_block (P := Tryd.prog) (w := w) 38 42 i0 _ 5 40 Tryd.underlying38 hi hz0 hz1 hz2 n (by omega) (by omega)
  refine ⟨_, hr, ?_, Keeps.alloc None w _⟩
  unfold IsC
  rw [heap_alloc_new, hM, insVals_zero]
  congr 2
  apply Array.ext
  · simp [madeCells]
  · intro i h1 h2
    have h5 : (Value.agg #[Value.int .i64 0, .int .i64 0, .int .i64 0, .int .i64 0, .int .i64 0]).cells = #[.int .i64 0, .int .i64 0, .int .i64 0, .int .i64 0, .int .i64 0] := rfl
    simp only [h5]
    simp only [madeCells, Array.getElem_map, Array.getElem_range, List.getElem_toArray, List.getElem_replicate]
    have hlt : i % 5 < 5 := Nat.mod_lt _ (by omega)
    show #[Value.int .i64 0, .int .i64 0, .int .i64 0, .int .i64 0, .int .i64 0][i % 5]! = _
    generalize i % 5 = q at hlt
    match q, hlt with
    | 0, _ => rfl
    | 1, _ => rfl
    | 2, _ => rfl
    | 3, _ => rfl
    | 4, _ => rfl
theorem ins_append (v : Value) (l : List Ins) (x : Ins) (n g ty : Nat) (w : World) (hn : n = l.length) (h : w.ownsRow 0 42 5 v n (insVals l)) (hlen : (n + 1) * 40 ≤ 140737488355328)
    (hg : w.heap[g]? = some (.cells #[.int .i64 x.kind, .int .i64 x.a, .int .i64 x.b, .int .i64 x.c, .int .i64 x.k] 42 (0, 0))) :
    ∃ b cap w', (Builtin.append_ #[38, 38] ty #[v, .slice (some ⟨g, 0, none⟩) 1 1]).run Tryd.prog w = .ok (.slice (some ⟨b, 0, none⟩) (n + 1) cap) w' ∧
      w'.ownsRow 0 42 5 (.slice (some ⟨b, 0, none⟩) (n + 1) cap) (n + 1) (insVals (l ++ [x])) ∧ Keeps (fun k => v.ownBlock = some k) w w' ∧ (v.ownBlock = some b ∨ w.heap.size ≤ b) := by
  obtain ⟨i0, hi, hz0, hz1, hz2⟩ := info_parts Tryd.infoIns
  obtain ⟨v', w', hr, ho, hgr, hm, -⟩ := run_append_moved (P := Tryd.prog) w 0 38 ty 42 i0 _ 5 40 Tryd.underlying38 hi hz0 hz1 hz2 rfl (by decide) v n (insVals l) h
    ⟨g, 0, none⟩ 1 1 (insCells x) rfl (by
      intro j u hu
      rw [show (⟨g, 0, none⟩ : Addr).add j = ⟨g, j, none⟩ by unfold Addr.add; split <;> simp_all, blk_cell hg]
      simpa [insCells] using hu) (by
      intro u hu
      simp [insCells] at hu
      rcases hu with rfl | rfl | rfl | rfl | rfl <;> rfl) (by unfold maxLen; omega) (by omega) (Nat.zero_le _)
  have e : insVals (l ++ [x]) = insVals l ++ insCells x := by simp [insVals]
  rw [e]
  rcases ho.2 with ⟨_, h0⟩ | ⟨b, cap, cur, rfl, _⟩
  · omega
  · refine ⟨b, cap, w', hr, ho, (Keeps.refl _ w).andGrown hgr (fun k e => .inl e), ?_⟩
    rcases hm with hm | ⟨g', e, hg⟩
    · exact .inl (hm.symm.trans rfl)
    · simp [Value.ownBlock] at e; exact .inr (by omega)
theorem load_fnv (w : World) (g : Nat) (t : TypeId) (p r s : Int) (v : Value) (hb : w.heap[g]? = some (.cells #[.int .i64 p, .int .i64 r, .int .i64 s, v] t (0, 0))) : (loadVar 40 ⟨g, 0, none⟩).run Tryd.prog w = .ok (.agg #[.int .i64 p, .int .i64 r, .int .i64 s, v]) w :=
  run_loadVar_row _ g t 40 _ _ _ hb Tryd.underlying40 rfl (by kernel_rfl)
theorem load_ins (w : World) (g : Nat) (t : TypeId) (x : Ins) (hb : w.heap[g]? = some (.cells #[.int .i64 x.kind, .int .i64 x.a, .int .i64 x.b, .int .i64 x.c, .int .i64 x.k] t (0, 0))) : (loadVar 42 ⟨g, 0, none⟩).run Tryd.prog w = .ok (insV x) w :=
  run_loadVar_row _ g t 42 _ _ _ hb Tryd.underlying42 rfl (by kernel_rfl)
theorem load_prog (w : World) (g : Nat) (t : TypeId) (v : Value) (hb : w.heap[g]? = some (.cells #[v] t (0, 0))) : (loadVar 25 ⟨g, 0, none⟩).run Tryd.prog w = .ok (.agg #[v]) w :=
  run_loadVar_row _ g t 25 _ _ _ hb Tryd.underlying25 rfl (by kernel_rfl)
theorem odd_any (j : Nat) (w : World) (hj : j ≤ 1) : Calls Tryd.prog 13 #[.int .i64 (j : Int)] w fun e w' => e = .returned (insV (oddI j)) ∧ Keeps None w w' := by
  have e : (70 : Int) + (j : Int) = (oddI j).kind := rfl
  go_enter Tryd.func13, Tryd.ntmps13
  go_wp2_with fail
  exact bodyPost_ret (results_one (q := 2) (ty := 42) rfl rfl (load_ins _ _ _ (oddI j) (heap_alloc_new _ _))) rfl ⟨rfl, Keeps.alloc None w _⟩
end Go.Proofs.YtcjmceedkfjbeaaDoor
/-! turned, spare. -/
namespace Go.Proofs.YtcjmceedkfjbeaaDoor
set_option linter.unusedVariables false
set_option maxRecDepth 20000
open Go.RowKit Go.HeapKit

def bumpI (i : Ins) : Ins := { i with k := wrap64 (i.k + 1) }
def turnF (f : Fn) : Fn := { f with code := (f.code.map bumpI).reverse }
theorem results_cell_tmp {P : Program} {fn : Func} {q u : Tmp} {ty : TypeId} (h : fn.results = #[.cell q ty, .tmp u]) {tmps : Array Value} {w : World} {g : Nat} (ha : tmps.getD q undef = .pointer (some ⟨g, 0, none⟩)) {v : Value}
    (hl : (loadVar ty ⟨g, 0, none⟩).run P w = .ok v w) : (results fn tmps).run P w = .ok (.tuple #[v, tmps.getD u undef]) w := by
  have ha' : tmps[q]?.getD undef = .pointer (some ⟨g, 0, none⟩) := by simpa using ha
  simp [results, h, ha', asAddr, hl]
/-- The list while it is turned. -/
def turnsTo (l : List Ins) (k : Nat) : List Ins := ((l.drop k).map bumpI).reverse
theorem turns_step (l : List Ins) (a : Nat) (x : Ins) (hx : l[a]? = some x) : turnsTo l (a + 1) ++ [bumpI x] = turnsTo l a := by
  have ha := (List.getElem?_eq_some_iff.1 hx).1
  unfold turnsTo
  rw [List.drop_eq_getElem_cons ha]
  rw [List.getElem?_eq_getElem ha] at hx
  rw [Option.some.inj hx]
  simp
theorem turns_len (l : List Ins) (k : Nat) : (turnsTo l k).length = l.length - k := by simp [turnsTo]
structure Tn (w wr : World) (B n : Nat) (f : Fn) (fv : Array Value) (k : Nat) (cv : Value) : Prop where
  keep : Keeps None w wr
  box : wr.heap[B]? = some (.cells fv 40 (0, 0))
  res : wr.heap[B + 1]? = some (.cells #[.int .i64 0, .int .i64 0, .int .i64 0, .slice none 0 0] 40 (0, 0))
  g : wr.heap[B + 2]? = some (.cells #[.int .i64 f.params, .int .i64 f.regs, .int .i64 f.slots, cv] 40 (0, 0))
  row : wr.ownsRow 0 42 5 cv (n - k) (insVals (turnsTo f.code k))
  low : ∀ g, cv.ownBlock = some g → w.heap.size ≤ g
  hB : w.heap.size ≤ B
theorem Tn.more {w wr w' : World} {B n : Nat} {f : Fn} {fv : Array Value} {k : Nat} {cv : Value} (h : Tn w wr B n f fv k cv) (hk : Keeps None wr w') : Tn w w' B n f fv k cv :=
  ⟨h.keep.trans hk (fun _ f _ => f), blk_kept h.box hk (fun f => f), blk_kept h.res hk (fun f => f), blk_kept h.g hk (fun f => f), hk.own h.row (fun _ _ f => f), h.low, h.hB⟩
theorem Tn.next {w wr w' : World} {B n : Nat} {f : Fn} {fv : Array Value} {a : Nat} {cv : Value} {x : Ins} {b cap : Nat} (h : Tn w wr B n f fv (a + 1) cv) (hx : f.code[a]? = some x) (hn : n = f.code.length)
    (ho : w'.ownsRow 0 42 5 (.slice (some ⟨b, 0, none⟩) (n - a) cap) (n - a) (insVals (turnsTo f.code (a + 1) ++ [bumpI x]))) (hk : Keeps (fun k => cv.ownBlock = some k) wr w') (hg : cv.ownBlock = some b ∨ wr.heap.size ≤ b) :
    w'.cell? ⟨B + 2, 3, none⟩ = some cv ∧ w'.frozen? ⟨B + 2, 3, none⟩ = false ∧ Tn w (w'.setCell ⟨B + 2, 3, none⟩ (.slice (some ⟨b, 0, none⟩) (n - a) cap)) B n f fv a (.slice (some ⟨b, 0, none⟩) (n - a) cap) := by
  have no : ∀ {p : Nat} {c : Array Value}, wr.heap[p]? = some (.cells c 40 (0, 0)) → ¬ cv.ownBlock = some p := fun hp e => absurd (own_type h.row e hp) (by decide)
  have g1 := blk_kept h.g hk (no h.g)
  have hkS : Keeps (· = B + 2) w' (w'.setCell ⟨B + 2, 3, none⟩ (.slice (some ⟨b, 0, none⟩) (n - a) cap)) := Keeps.setCell (S := (· = B + 2)) w' rfl _
  have hbne : b ≠ B + 2 := by
    rintro rfl
    have := own_type ho (g := B + 2) rfl g1
    exact absurd this (by decide)
  refine ⟨(blk_cell g1 3).trans rfl, blk_free g1 3, ⟨(h.keep.trans hk (fun i e hi => by have := h.low i e; omega)).trans hkS (fun i e hi => by have := h.hB; omega), blk_kept (blk_kept h.box hk (no h.box)) hkS (by omega), blk_kept (blk_kept h.res hk (no h.res)) hkS (by omega), by rw [blk_set g1]; rfl, ?_, fun g e => ?_, h.hB⟩⟩
  · rw [← turns_step f.code a x hx]
    exact hkS.own ho (fun g e q => by simp [Value.ownBlock] at e; exact hbne (e.trans q))
  · simp [Value.ownBlock] at e
    subst e
    rcases hg with q | q
    · exact h.low _ q
    · have := h.keep.size; omega
set_option maxHeartbeats 2000000 in
theorem turned_any (f : Fn) (ca : Option Addr) (cc : Nat) (w : World) (hC : SeenI w ca f.code.length f.code) (hr : f.code.length * 40 ≤ 140737488351232) :
    Calls Tryd.prog 49 #[fnV f ca cc] w fun e w' => ∃ ca' cc', e = .returned (fnV (turnF f) ca' cc') ∧ w'.ownsRow 0 42 5 (.slice ca' f.code.length cc') f.code.length (insVals (turnF f).code) ∧ Keeps None w w' ∧ ∀ g, (Value.slice ca' f.code.length cc').ownBlock = some g → w.heap.size ≤ g := by
  obtain ⟨n, hn⟩ : ∃ n, n = f.code.length := ⟨_, rfl⟩
  unfold fnV
  have hlt : (turnF f).code.length = n := by simp [turnF, hn]
  rw [← hn] at hC hr ⊢
  have HTL : Hid _ := hlt
  have HC : Hid (SeenI w ca n f.code ∧ n = f.code.length) := ⟨hC, hn⟩
  clear hC hn hlt
  obtain ⟨B, hB⟩ : ∃ B, B = w.heap.size := ⟨_, rfl⟩
  obtain ⟨fv, hfv⟩ : ∃ fv : Array Value, fv = #[.int .i64 f.params, .int .i64 f.regs, .int .i64 f.slots, .slice ca n cc] := ⟨_, rfl⟩
  have hst : Tn w (((w.alloc (.cells #[.int .i64 f.params, .int .i64 f.regs, .int .i64 f.slots, .slice ca n cc] 40)).alloc (.cells #[.int .i64 0, .int .i64 0, .int .i64 0, .slice none 0 0] 40)).alloc (.cells #[.int .i64 f.params, .int .i64 f.regs, .int .i64 f.slots, .slice none 0 0] 40)) B n f fv n (.slice none 0 0) := by
    obtain ⟨p1, p2⟩ := two_boxes w #[.int .i64 f.params, .int .i64 f.regs, .int .i64 f.slots, .slice ca n cc] #[.int .i64 0, .int .i64 0, .int .i64 0, .slice none 0 0] 40 40
    have hk2 := keeps2 w (.cells #[.int .i64 f.params, .int .i64 f.regs, .int .i64 f.slots, .slice ca n cc] 40) (.cells #[.int .i64 0, .int .i64 0, .int .i64 0, .slice none 0 0] 40)
    have s2 : ((w.alloc (.cells #[.int .i64 f.params, .int .i64 f.regs, .int .i64 f.slots, .slice ca n cc] 40)).alloc (.cells #[.int .i64 0, .int .i64 0, .int .i64 0, .slice none 0 0] 40)).heap.size = B + 2 := by rw [hB]; simp
    generalize (w.alloc (.cells #[.int .i64 f.params, .int .i64 f.regs, .int .i64 f.slots, .slice ca n cc] 40)).alloc (.cells #[.int .i64 0, .int .i64 0, .int .i64 0, .slice none 0 0] 40) = w2 at *
    have hal := Keeps.alloc None w2 (.cells #[.int .i64 f.params, .int .i64 f.regs, .int .i64 f.slots, .slice none 0 0] 40)
    have p3 := heap_alloc_new w2 (.cells #[.int .i64 f.params, .int .i64 f.regs, .int .i64 f.slots, .slice none 0 0] 40)
    rw [s2] at p3
    rw [← hB] at p1 p2
    refine ⟨hk2.trans hal (fun _ f _ => f), by rw [hfv]; exact blk_kept p1 hal (fun f => f), blk_kept p2 hal (fun f => f), p3, ⟨?_, .inl ⟨rfl, by omega⟩⟩, fun g e => by simp [Value.ownBlock] at e, by omega⟩
    have := turns_len f.code n
    rw [insVals_length, this]
    have := HC.out.2
    omega
  have HST : Hid _ := hst
  have HB : Hid _ := hB
  have HF : Hid _ := hfv
  clear hst
  go_enter Tryd.func49, Tryd.ntmps49
  go_upto_region 3 with fail
  rw [← hB]
  clear hB hfv
  generalize ((w.alloc (.cells #[.int .i64 f.params, .int .i64 f.regs, .int .i64 f.slots, .slice ca n cc] 40)).alloc (.cells #[.int .i64 0, .int .i64 0, .int .i64 0, .slice none 0 0] 40)).alloc (.cells #[.int .i64 f.params, .int .i64 f.regs, .int .i64 f.slots, .slice none 0 0] 40) = W at *
  have hbx := HST.out.box
  rw [HF.out] at hbx
  have d3 : W.cell? ⟨B, 3, none⟩ = some (.slice ca n cc) := (cell_of_heap hbx 3).trans rfl
  have hnb : (n : Int) ≤ 4611686018427387904 := by omega
  clear hbx
  go_wp2_with fail
  clear d3
  go_loopw [4] (fun s4 wr => ∃ (k : Nat) (cv : Value), k ≤ n ∧ s4 = .int .i64 ((k : Int) - 1) ∧ Tn w wr B n f fv k cv) (fun i _ => (intOf i + 1).toNat)
  case atStart => exact ⟨n, .slice none 0 0, Nat.le_refl _, rfl, HST.out⟩
  case round =>
    obtain ⟨k, cv, hk, rfl, hT⟩ := hrel
    cases k with
    | zero =>
      have i1 : ¬ (0 : Int) ≤ ((0 : Nat) : Int) - 1 := by omega
      have e1 : ((0 : Nat) : Int) - 1 = -1 := by omega
      rw [e1]
      have c0 : wr.cell? ⟨B + 2, 0, none⟩ = some (.int .i64 f.params) := (cell_of_heap hT.g 0).trans rfl
      have c1 : wr.cell? ⟨B + 2, 1, none⟩ = some (.int .i64 f.regs) := (cell_of_heap hT.g 1).trans rfl
      have c2 : wr.cell? ⟨B + 2, 2, none⟩ = some (.int .i64 f.slots) := (cell_of_heap hT.g 2).trans rfl
      have c3 : wr.cell? ⟨B + 2, 3, none⟩ = some cv := (cell_of_heap hT.g 3).trans rfl
      have r0 : wr.cell? ⟨B + 1, 0, none⟩ = some (.int .i64 0) := (cell_of_heap hT.res 0).trans rfl
      have r1 : wr.cell? ⟨B + 1, 1, none⟩ = some (.int .i64 0) := (cell_of_heap hT.res 1).trans rfl
      have r2 : wr.cell? ⟨B + 1, 2, none⟩ = some (.int .i64 0) := (cell_of_heap hT.res 2).trans rfl
      have r3 : wr.cell? ⟨B + 1, 3, none⟩ = some (.slice none 0 0) := (cell_of_heap hT.res 3).trans rfl
      have z0 := blk_free hT.res 0
      have z1 := blk_free hT.res 1
      have z2 := blk_free hT.res 2
      have z3 := blk_free hT.res 3
      obtain ⟨ca', cc', hcv⟩ : ∃ a c, cv = .slice a n c := by
        have := hT.row
        rw [Nat.sub_zero] at this
        rcases this.2 with ⟨rfl, h0⟩ | ⟨g, cap, cur, rfl, _⟩
        · exact ⟨none, 0, by rw [h0]⟩
        · exact ⟨_, cap, rfl⟩
      subst hcv
      have hkS : Keeps (· = B + 1) wr _ := ((((Keeps.refl (· = B + 1) wr).andSet (x := ⟨B + 1, 0, none⟩) (.inl rfl) (.int .i64 f.params)).andSet (x := ⟨B + 1, 1, none⟩) (.inl rfl) (.int .i64 f.regs)).andSet (x := ⟨B + 1, 2, none⟩) (.inl rfl) (.int .i64 f.slots)).andSet (x := ⟨B + 1, 3, none⟩) (.inl rfl) (.slice ca' n cc')
      have hrw := hT.row
      rw [Nat.sub_zero] at hrw
      have hb4 := blk_set (i := 3) (blk_set (i := 2) (blk_set (i := 1) (blk_set (i := 0) hT.res (.int .i64 f.params)) (.int .i64 f.regs)) (.int .i64 f.slots)) (.slice ca' n cc')
      have HQ : Hid (_ ∧ _ ∧ _ ∧ _) := And.intro hb4 (And.intro (hkS.own hrw (fun g e q => absurd (own_type hrw e (q ▸ hT.res)) (by decide))) (And.intro (hT.keep.trans hkS (fun i e hi => by have := hT.hB; omega)) hT.low))
      clear hT hkS hrw hb4
      go_wp2_with fail
      refine bodyPost_ret (results_one (q := 2) (ty := 40) rfl rfl (load_fnv _ _ _ f.params f.regs f.slots (.slice ca' n cc') HQ.out.1)) rfl ⟨ca', cc', ?_, HQ.out.2.1, HQ.out.2.2.1, HQ.out.2.2.2⟩
      rw [HTL.out]
      rfl
    | succ a =>
      have e1 : ((a + 1 : Nat) : Int) - 1 = (a : Int) := by omega
      rw [e1]
      have i1 : (0 : Int) ≤ (a : Int) := by omega
      have han : a < n := by omega
      obtain ⟨b, off, x, rfl, hx, hat⟩ := (HC.out.1.more hT.keep).at han
      obtain ⟨y0, y1, y2, y3, y4⟩ := hat
      have hbx := hT.box
      rw [HF.out] at hbx
      have d3 : wr.cell? ⟨B, 3, none⟩ = some (.slice (some ⟨b, off, none⟩) n cc) := (cell_of_heap hbx 3).trans rfl
      have i2 : (a : Int) < (n : Int) := by omega
      obtain ⟨C, hCs⟩ : ∃ C, C = wr.heap.size := ⟨_, rfl⟩
      have HCS : Hid _ := hCs
      have HT : Hid (Tn w wr B n f fv (a + 1) cv ∧ f.code[a]? = some x) := ⟨hT, hx⟩
      clear hbx hT hx
      go_upto_region 7 with fail
      rw [← hCs]
      go_cut [5] (fun s5 wx => s5 = .pointer (some ⟨C, 0, none⟩) ∧ wx.heap[C]? = some (.cells #[.int .i64 x.kind, .int .i64 x.a, .int .i64 x.b, .int .i64 x.c, .int .i64 (wrap64 (x.k + 1))] 42 (0, 0)) ∧ Keeps None wr wx)
      case first =>
        have hal := heap_alloc_new wr (.cells #[.int .i64 x.kind, .int .i64 x.a, .int .i64 x.b, .int .i64 x.c, .int .i64 x.k] 42)
        have hkl := Keeps.alloc None wr (.cells #[.int .i64 x.kind, .int .i64 x.a, .int .i64 x.b, .int .i64 x.c, .int .i64 x.k] 42)
        rw [← hCs] at hal
        have q4 : (wr.alloc (.cells #[.int .i64 x.kind, .int .i64 x.a, .int .i64 x.b, .int .i64 x.c, .int .i64 x.k] 42)).cell? ⟨C, 4, none⟩ = some (.int .i64 x.k) := (cell_of_heap hal 4).trans rfl
        have z4 := blk_free hal 4
        have HAL : Hid _ := And.intro hal hkl
        clear hal hkl hCs
        go_wp2_with fail
        go_meet
        refine ⟨rfl, ?_, HAL.out.2.andSet (.inr (by show wr.heap.size ≤ C; have := HCS.out; omega)) _⟩
        rw [blk_set HAL.out.1]
        rfl
      case rest =>
        obtain ⟨rfl, hcb, hkc⟩ := hcut
        have hT2 := HT.out.1.more hkc
        have hcl := HC.out.2
        have hT3 := hT2.more (Keeps.alloc None wc (.cells #[.int .i64 x.kind, .int .i64 x.a, .int .i64 x.b, .int .i64 x.c, .int .i64 (wrap64 (x.k + 1))] 42))
        obtain ⟨b2, cap2, w2, hrn, ho2, hk2, hg2⟩ := ins_append cv (turnsTo f.code (a + 1)) (bumpI x) (n - (a + 1)) wc.heap.size 38 (wc.alloc (.cells #[.int .i64 x.kind, .int .i64 x.a, .int .i64 x.b, .int .i64 x.c, .int .i64 (wrap64 (x.k + 1))] 42)) (by rw [turns_len]; omega) hT3.row (by omega) (heap_alloc_new wc _)
        rw [show n - (a + 1) + 1 = n - a by omega] at hrn ho2
        obtain ⟨f3, f4, hT4⟩ := hT3.next HT.out.2 hcl ho2 hk2 hg2
        have g3 : wc.cell? ⟨B + 2, 3, none⟩ = some cv := (cell_of_heap hT2.g 3).trans rfl
        have c0 : wc.cell? ⟨C, 0, none⟩ = some (.int .i64 x.kind) := (cell_of_heap hcb 0).trans rfl
        have c1 : wc.cell? ⟨C, 1, none⟩ = some (.int .i64 x.a) := (cell_of_heap hcb 1).trans rfl
        have c2 : wc.cell? ⟨C, 2, none⟩ = some (.int .i64 x.b) := (cell_of_heap hcb 2).trans rfl
        have c3 : wc.cell? ⟨C, 3, none⟩ = some (.int .i64 x.c) := (cell_of_heap hcb 3).trans rfl
        have c4 : wc.cell? ⟨C, 4, none⟩ = some (.int .i64 (wrap64 (x.k + 1))) := (cell_of_heap hcb 4).trans rfl
        have H4 : Hid _ := hT4
        clear hT2 hT3 ho2 hk2 hg2 hT4 hcb hkc hcl y0 y1 y2 y3 y4 d3 hCs
        generalize wrap64 (x.k + 1) = xk at *
        go_wp2_with (at_builtin; refine wpList_append_run rfl (.tmp 26) (.tmp 28) 38 38 rfl rfl rfl hrn ?_)
        refine ⟨⟨a, _, by omega, by simp, H4.out⟩, ?_⟩
        simp [intOf]
end Go.Proofs.YtcjmceedkfjbeaaDoor
/-! spare: a function in new memory, with room behind its code. -/
namespace Go.Proofs.YtcjmceedkfjbeaaDoor
set_option linter.unusedVariables false
set_option maxRecDepth 20000
open Go.RowKit Go.HeapKit

def oddL (l : List Ins) : List Ins := l ++ [oddI 0, oddI 1]
/-- The list while it is copied. -/
def partL (l : List Ins) (k : Nat) : List Ins := l.take k ++ List.replicate (l.length + 2 - k) zeroI
theorem part_len (l : List Ins) (k : Nat) (hk : k ≤ l.length) : (partL l k).length = l.length + 2 := by simp [partL]; omega
theorem part_zero (l : List Ins) : partL l 0 = List.replicate (l.length + 2) zeroI := by simp [partL]
theorem part_step (l : List Ins) (k : Nat) (x : Ins) (hx : l[k]? = some x) : (partL l k).set k x = partL l (k + 1) := by
  have hk := (List.getElem?_eq_some_iff.1 hx).1
  unfold partL
  rw [List.set_append_right _ _ (by simp; omega), show k - (l.take k).length = 0 by simp; omega, show l.length + 2 - k = (l.length + 2 - (k + 1)) + 1 by omega, List.replicate_succ, List.set_cons_zero, List.take_add_one, hx]
  simp
theorem part_end (l : List Ins) : ((partL l l.length).set l.length (oddI 0)).set (l.length + 1) (oddI 1) = oddL l := by
  unfold partL oddL
  rw [List.take_of_length_le (Nat.le_refl _), show l.length + 2 - l.length = 2 by omega, List.set_append_right _ _ (by omega), List.set_append_right _ _ (by omega)]
  simp [List.replicate]
structure Sp (w wr : World) (B n G : Nat) (fv : Array Value) (l : List Ins) : Prop where
  keep : Keeps None w wr
  box : wr.heap[B]? = some (.cells fv 40 (0, 0))
  res : wr.heap[B + 1]? = some (.cells #[.int .i64 0, .int .i64 0, .int .i64 0, .slice none 0 0] 40 (0, 0))
  code : IsC wr G l
  hB : w.heap.size ≤ B
  hG : B + 1 < G
theorem Sp.more {w wr w' : World} {B n G : Nat} {fv : Array Value} {l : List Ins} (h : Sp w wr B n G fv l) (hk : Keeps None wr w') : Sp w w' B n G fv l :=
  ⟨h.keep.trans hk (fun _ f _ => f), blk_kept h.box hk (fun f => f), blk_kept h.res hk (fun f => f), h.code.kept hk (fun f => f), h.hB, h.hG⟩
theorem Sp.set {w wr : World} {B n G : Nat} {fv : Array Value} {l : List Ins} (h : Sp w wr B n G fv l) (k : Nat) (x : Ins) (hk : k < l.length) : Sp w (set5 wr G (k * 5) x) B n G fv (l.set k x) := by
  have hks := set5_keeps wr G (k * 5) x
  have h1 := h.hG
  have h2 := h.hB
  exact ⟨h.keep.trans hks (fun i e hi => by omega), blk_kept h.box hks (by omega), blk_kept h.res hks (by omega), h.code.set k x hk, h.hB, h.hG⟩
theorem IsC.cells {w : World} {g : Nat} {l : List Ins} (h : IsC w g l) {k : Nat} (hk : k < l.length) : ∃ x, InsAt w g (k * 5) x ∧ ∀ j, w.frozen? ⟨g, j, none⟩ = false := ⟨l[k], h.at (by simp), fun j => blk_free h j⟩
set_option maxHeartbeats 2000000 in
theorem spare_any (f : Fn) (ca : Option Addr) (cc : Nat) (w : World) (hC : SeenI w ca f.code.length f.code) (hr : f.code.length * 40 ≤ 140737488351232) (n : Nat) (hn : n = f.code.length) :
    Calls Tryd.prog 32 #[.agg #[.int .i64 f.params, .int .i64 f.regs, .int .i64 f.slots, .slice ca n cc]] w fun e w' => ∃ g, e = .returned (.tuple #[.agg #[.int .i64 f.params, .int .i64 f.regs, .int .i64 f.slots, .slice (some ⟨g, 0, none⟩) n (n + 2)], .slice (some ⟨g, 0, none⟩) (n + 2) (n + 2)]) ∧ IsC w' g (oddL f.code) ∧ Keeps None w w' ∧ w.heap.size ≤ g := by
  rw [← hn] at hC hr
  obtain ⟨B, hB⟩ : ∃ B, B = w.heap.size := ⟨_, rfl⟩
  obtain ⟨fv, hfv⟩ : ∃ fv : Array Value, fv = #[.int .i64 f.params, .int .i64 f.regs, .int .i64 f.slots, .slice ca n cc] := ⟨_, rfl⟩
  obtain ⟨p1, p2⟩ := two_boxes w #[.int .i64 f.params, .int .i64 f.regs, .int .i64 f.slots, .slice ca n cc] #[.int .i64 0, .int .i64 0, .int .i64 0, .slice none 0 0] 40 40
  have hk2 := keeps2 w (.cells #[.int .i64 f.params, .int .i64 f.regs, .int .i64 f.slots, .slice ca n cc] 40) (.cells #[.int .i64 0, .int .i64 0, .int .i64 0, .slice none 0 0] 40)
  have s2 : ((w.alloc (.cells #[.int .i64 f.params, .int .i64 f.regs, .int .i64 f.slots, .slice ca n cc] 40)).alloc (.cells #[.int .i64 0, .int .i64 0, .int .i64 0, .slice none 0 0] 40)).heap.size = B + 2 := by rw [hB]; simp
  obtain ⟨w2, hw2⟩ : ∃ w2, w2 = (w.alloc (.cells #[.int .i64 f.params, .int .i64 f.regs, .int .i64 f.slots, .slice ca n cc] 40)).alloc (.cells #[.int .i64 0, .int .i64 0, .int .i64 0, .slice none 0 0] 40) := ⟨_, rfl⟩
  rw [← hw2] at p1 p2 hk2 s2
  rw [← hB] at p1 p2
  obtain ⟨w3, hmk, hC3, hk3⟩ := codes_made w2 (n + 2) (by omega)
  rw [s2] at hmk hC3
  have HS : Hid (Sp w w3 B n (B + 2) fv (partL f.code 0)) := ⟨hk2.trans hk3 (fun _ f _ => f), by rw [hfv]; exact blk_kept p1 hk3 (fun f => f), blk_kept p2 hk3 (fun f => f), by rw [part_zero, ← hn]; exact hC3, by omega, by omega⟩
  have HC : Hid (SeenI w ca n f.code ∧ n = f.code.length) := ⟨hC, hn⟩
  have HF : Hid _ := hfv
  have d3 : w2.cell? ⟨B, 3, none⟩ = some (.slice ca n cc) := (cell_of_heap p1 3).trans rfl
  have hnb : (n : Int) ≤ 4611686018427387904 := by omega
  rw [show ((n + 2 : Nat) : Int) = (n : Int) + 2 by omega] at hmk
  clear hC hn hfv p1 p2 hk2 hk3 hC3 s2
  go_enter Tryd.func32, Tryd.ntmps32
  go_upto_region 1 with fail
  rw [← hw2, ← hB]
  have HBE : Hid _ := hB
  clear hw2 hB
  go_upto_region 2 with fail
  clear d3
  go_upto_region 3 with (at_make; refine wpList_make_run rfl (.tmp 12) (.tmp 12) 38 rfl rfl rfl hmk ?_)
  clear hmk
  go_wp2_with fail
  go_loopw [6] (fun s6 wr => ∃ k : Nat, k ≤ n ∧ s6 = .int .i64 k ∧ Sp w wr B n (B + 2) fv (partL f.code k)) (fun i _ => n - (intOf i).toNat)
  case atStart => exact ⟨0, Nat.zero_le _, rfl, HS.out⟩
  case round =>
    obtain ⟨k, hk, rfl, hT⟩ := hrel
    by_cases hkn : k < n
    · obtain ⟨b, off, x, rfl, hx, hat⟩ := (HC.out.1.more hT.keep).at hkn
      obtain ⟨y0, y1, y2, y3, y4⟩ := hat
      have hbx := hT.box
      rw [HF.out] at hbx
      have d3 : wr.cell? ⟨B, 3, none⟩ = some (.slice (some ⟨b, off, none⟩) n cc) := (cell_of_heap hbx 3).trans rfl
      have hpl : (partL f.code k).length = n + 2 := by rw [part_len f.code k (by have := HC.out.2; omega), ← HC.out.2]
      obtain ⟨z, hz, hfr⟩ := hT.code.cells (k := k) (by omega)
      obtain ⟨u0, u1, u2, u3, u4⟩ := hz
      have t0 := hfr (k * 5)
      have t1 := hfr (k * 5 + 1)
      have t2 := hfr (k * 5 + 2)
      have t3 := hfr (k * 5 + 3)
      have t4 := hfr (k * 5 + 4)
      have hS := hT.set k x (by omega)
      rw [part_step f.code k x hx] at hS
      have i1 : (k : Int) < (n : Int) := by omega
      have i2 : (k : Int) < (n : Int) + 2 := by omega
      have i3 : (k : Int) < ((n + 2 : Nat) : Int) := by omega
      have HN : Hid _ := hS
      clear hT hbx hx hpl hfr hS
      go_wp2_with fail
      exact ⟨⟨k + 1, by omega, by simp, HN.out⟩, by simp [intOf]; omega⟩
    · have hkn2 : k = n := by omega
      have hkl : k = f.code.length := by have := HC.out.2; omega
      subst hkn2
      have i1 : ¬ (k : Int) < (k : Int) := by omega
      have ho0 := odd_any 0 wr (by omega)
      have HT : Hid (Sp w wr B k (B + 2) fv (partL f.code k) ∧ (partL f.code k).length = k + 2) := ⟨hT, by rw [part_len f.code k (by omega), ← hkl]⟩
      have HKL : Hid _ := hkl
      clear hT hkl
      unfold insV at ho0
      go_wp2_with fail
      refine ho0.mono ?_
      rintro e w4 ⟨rfl, hk4⟩
      have hT4 := HT.out.1.more hk4
      obtain ⟨z, hz, hfr⟩ := hT4.code.cells (k := k) (by have := HT.out.2; omega)
      obtain ⟨u0, u1, u2, u3, u4⟩ := hz
      have t0 := hfr (k * 5)
      have t1 := hfr (k * 5 + 1)
      have t2 := hfr (k * 5 + 2)
      have t3 := hfr (k * 5 + 3)
      have t4 := hfr (k * 5 + 4)
      have hS4 := hT4.set k (oddI 0) (by have := HT.out.2; omega)
      have i2 : (k : Int) < ((k + 2 : Nat) : Int) := by omega
      have H4 : Hid _ := hS4
      have ho1 := odd_any 1 (set5 w4 (B + 2) (k * 5) (oddI 0)) (by omega)
      unfold insV at ho1
      clear hT4 hfr hS4 hk4 ho0
      go_upto_region 8 with fail
      go_wp2_with fail
      refine ho1.mono ?_
      rintro e w5 ⟨rfl, hk5⟩
      have hT5 := H4.out.more hk5
      obtain ⟨z5, hz5, hfr⟩ := hT5.code.cells (k := k + 1) (by have := HT.out.2; simp only [List.length_set]; omega)
      obtain ⟨v0, v1, v2, v3, v4⟩ := hz5
      have t0 := hfr ((k + 1) * 5)
      have t1 := hfr ((k + 1) * 5 + 1)
      have t2 := hfr ((k + 1) * 5 + 2)
      have t3 := hfr ((k + 1) * 5 + 3)
      have t4 := hfr ((k + 1) * 5 + 4)
      have hS5 := hT5.set (k + 1) (oddI 1) (by have := HT.out.2; simp only [List.length_set]; omega)
      have i3 : (k : Int) + 1 < ((k + 2 : Nat) : Int) := by omega
      have hpe := part_end f.code
      rw [← HKL.out] at hpe
      rw [hpe] at hS5
      have H5 : Hid _ := hS5
      clear hT5 hfr hS5 hk5 ho1 hpe
      go_upto_region 9 with fail
      obtain ⟨W, hW⟩ : ∃ W, W = set5 w5 (B + 2) ((k + 1) * 5) (oddI 1) := ⟨_, rfl⟩
      change Code.wp _ _ _ _ (set5 w5 (B + 2) ((k + 1) * 5) (oddI 1))
      rw [← hW] at H5 ⊢
      clear hW t0 t1 t2 t3 t4 v0 v1 v2 v3 v4 u0 u1 u2 u3 u4
      have hbx := H5.out.box
      rw [HF.out] at hbx
      have d0 : W.cell? ⟨B, 0, none⟩ = some (.int .i64 f.params) := (cell_of_heap hbx 0).trans rfl
      have d1 : W.cell? ⟨B, 1, none⟩ = some (.int .i64 f.regs) := (cell_of_heap hbx 1).trans rfl
      have d2 : W.cell? ⟨B, 2, none⟩ = some (.int .i64 f.slots) := (cell_of_heap hbx 2).trans rfl
      have d3 : W.cell? ⟨B, 3, none⟩ = some (.slice ca k cc) := (cell_of_heap hbx 3).trans rfl
      have i4 : (k : Int) ≤ ((k + 2 : Nat) : Int) := by omega
      have hal := Keeps.alloc None W (.cells #[.int .i64 f.params, .int .i64 f.regs, .int .i64 f.slots, .slice (some ⟨B + 2, 0, none⟩) k (k + 2)] 40)
      have hT6 := H5.out.more hal
      have r0 := (cell_of_heap hT6.res 0).trans rfl
      have r1 := (cell_of_heap hT6.res 1).trans rfl
      have r2 := (cell_of_heap hT6.res 2).trans rfl
      have r3 := (cell_of_heap hT6.res 3).trans rfl
      have z0 := blk_free hT6.res 0
      have z1 := blk_free hT6.res 1
      have z2 := blk_free hT6.res 2
      have z3 := blk_free hT6.res 3
      have hkS : Keeps (· = B + 1) (W.alloc (.cells #[.int .i64 f.params, .int .i64 f.regs, .int .i64 f.slots, .slice (some ⟨B + 2, 0, none⟩) k (k + 2)] 40)) _ := ((((Keeps.refl (· = B + 1) _).andSet (x := ⟨B + 1, 0, none⟩) (.inl rfl) (.int .i64 f.params)).andSet (x := ⟨B + 1, 1, none⟩) (.inl rfl) (.int .i64 f.regs)).andSet (x := ⟨B + 1, 2, none⟩) (.inl rfl) (.int .i64 f.slots)).andSet (x := ⟨B + 1, 3, none⟩) (.inl rfl) (.slice (some ⟨B + 2, 0, none⟩) k (k + 2))
      have hb4 := blk_set (i := 3) (blk_set (i := 2) (blk_set (i := 1) (blk_set (i := 0) hT6.res (.int .i64 f.params)) (.int .i64 f.regs)) (.int .i64 f.slots)) (.slice (some ⟨B + 2, 0, none⟩) k (k + 2))
      have HQ : Hid (_ ∧ _ ∧ _) := And.intro hb4 (And.intro (hT6.code.kept hkS (by omega)) (hT6.keep.trans hkS (fun i e hi => by have := hT6.hB; omega)))
      clear hbx hal hT6 hkS hb4
      go_wp2_with fail
      exact bodyPost_ret (results_cell_tmp (q := 2) (u := 3) (ty := 40) rfl rfl (load_fnv _ _ _ f.params f.regs f.slots (.slice (some ⟨B + 2, 0, none⟩) k (k + 2)) HQ.out.1)) rfl ⟨B + 2, rfl, HQ.out.2.1, HQ.out.2.2, by have := HBE.out; omega⟩
end Go.Proofs.YtcjmceedkfjbeaaDoor
/-! wrap: a program as a gift. -/
namespace Go.Proofs.YtcjmceedkfjbeaaDoor
set_option linter.unusedVariables false
set_option maxRecDepth 20000
open Go.RowKit Go.HeapKit

/-- Rows of four cells. -/
theorem flat4_len (R : List (List Value)) (h : ∀ r ∈ R, r.length = 4) : R.flatten.length = R.length * 4 := by
  induction R with
  | nil => rfl
  | cons x R ih =>
    rw [List.flatten_cons, List.length_append, ih (fun r hr => h r (List.mem_cons_of_mem _ hr)), h x (List.mem_cons_self ..), List.length_cons]
    omega
theorem flat4_at (R : List (List Value)) (h : ∀ r ∈ R, r.length = 4) (k : Nat) (x : List Value) (hx : R[k]? = some x) (j : Nat) (hj : j < 4) : R.flatten[k * 4 + j]? = x[j]? := by
  induction R generalizing k with
  | nil => simp at hx
  | cons y R ih =>
    have hy := h y (List.mem_cons_self ..)
    rw [List.flatten_cons]
    cases k with
    | zero =>
      simp at hx
      subst hx
      rw [List.getElem?_append_left (by omega), Nat.zero_mul, Nat.zero_add]
    | succ k =>
      rw [List.getElem?_append_right (by omega), show (k + 1) * 4 + j - y.length = k * 4 + j by omega]
      exact ih (fun r hr => h r (List.mem_cons_of_mem _ hr)) k (by simpa using hx)
theorem flat4_set (R : List (List Value)) (h : ∀ r ∈ R, r.length = 4) (k : Nat) (hk : k < R.length) (a b c d : Value) : (((R.flatten.set (k * 4) a).set (k * 4 + 1) b).set (k * 4 + 2) c).set (k * 4 + 3) d = (R.set k [a, b, c, d]).flatten := by
  induction R generalizing k with
  | nil => simp at hk
  | cons y R ih =>
    have hy := h y (List.mem_cons_self ..)
    match y, hy with
    | [y0, y1, y2, y3], _ =>
      cases k with
      | zero => rfl
      | succ k =>
        have h1 := ih (fun r hr => h r (List.mem_cons_of_mem _ hr)) k (by simpa using hk)
        rw [List.set_cons_succ, List.flatten_cons, List.flatten_cons, ← h1, show (k + 1) * 4 = k * 4 + 4 by omega]
        rfl
structure IsR4 (w : World) (g : Nat) (R : List (List Value)) : Prop where
  blk : w.heap[g]? = some (.cells R.flatten.toArray 40 (0, 0))
  four : ∀ r ∈ R, r.length = 4
theorem IsR4.kept {w w' : World} {S : Nat → Prop} {g : Nat} {R : List (List Value)} (h : IsR4 w g R) (hk : Keeps S w w') (hS : ¬ S g) : IsR4 w' g R := ⟨blk_kept h.blk hk hS, h.four⟩
theorem IsR4.at {w : World} {g : Nat} {R : List (List Value)} (h : IsR4 w g R) {k : Nat} {a b c d : Value} (hx : R[k]? = some [a, b, c, d]) : w.cell? ⟨g, k * 4, none⟩ = some a ∧ w.cell? ⟨g, k * 4 + 1, none⟩ = some b ∧ w.cell? ⟨g, k * 4 + 2, none⟩ = some c ∧ w.cell? ⟨g, k * 4 + 3, none⟩ = some d := by
  have q : ∀ j, j < 4 → w.cell? ⟨g, k * 4 + j, none⟩ = [a, b, c, d][j]? := fun j hj => by
    rw [blk_cell h.blk]
    simpa using flat4_at R h.four k _ hx j hj
  exact ⟨q 0 (by omega), q 1 (by omega), q 2 (by omega), q 3 (by omega)⟩
theorem IsR4.free {w : World} {g : Nat} {R : List (List Value)} (h : IsR4 w g R) (j : Nat) : w.frozen? ⟨g, j, none⟩ = false := blk_free h.blk j
abbrev set4 (w : World) (g o : Nat) (a b c d : Value) : World := (((w.setCell ⟨g, o, none⟩ a).setCell ⟨g, o + 1, none⟩ b).setCell ⟨g, o + 2, none⟩ c).setCell ⟨g, o + 3, none⟩ d
theorem set4_keeps (w : World) (g o : Nat) (a b c d : Value) : Keeps (· = g) w (set4 w g o a b c d) :=
  ((((Keeps.refl (· = g) w).andSet (x := ⟨g, o, none⟩) (.inl rfl) a).andSet (x := ⟨g, o + 1, none⟩) (.inl rfl) b).andSet (x := ⟨g, o + 2, none⟩) (.inl rfl) c).andSet (x := ⟨g, o + 3, none⟩) (.inl rfl) d
theorem IsR4.set {w : World} {g : Nat} {R : List (List Value)} (h : IsR4 w g R) (k : Nat) (hk : k < R.length) (a b c d : Value) : IsR4 (set4 w g (k * 4) a b c d) g (R.set k [a, b, c, d]) := by
  refine ⟨?_, fun r hr => ?_⟩
  · unfold set4
    rw [blk_set (blk_set (blk_set (blk_set h.blk _) _) _) _, ← flat4_set R h.four k hk a b c d]
    simp
  · rcases List.mem_or_eq_of_mem_set hr with h1 | h1
    · exact h.four r h1
    · subst h1; rfl
def zeroFc : List Value := [.int .i64 0, .int .i64 0, .int .i64 0, .slice none 0 0]
def oddFc : List Value := [.int .i64 (-5), .int .i64 0, .int .i64 0, .slice none 0 0]
def gfCells (f : Fn) (c : Nat) : List Value := [.int .i64 f.params, .int .i64 f.regs, .int .i64 f.slots, .slice (some ⟨c, 0, none⟩) f.code.length (f.code.length + 2)]
def gcV (f : Fn) (c : Nat) : Value := .slice (some ⟨c, 0, none⟩) (f.code.length + 2) (f.code.length + 2)
theorem Tryd.infoFn : (Tryd.prog.info? 40).map (fun i => (i.zero, i.size, i.bytes)) = some (some (.agg #[.int .i64 0, .int .i64 0, .int .i64 0, .slice none 0 0]), 4, 48) := by kernel_rfl
theorem Tryd.infoCd : (Tryd.prog.info? 38).map (fun i => (i.zero, i.size, i.bytes)) = some (some (.slice none 0 0), 1, 24) := by kernel_rfl
theorem zero_flat (m : Nat) : ∀ i (h : i < (List.replicate m zeroFc).flatten.length), (List.replicate m zeroFc).flatten[i] = (#[Value.int .i64 0, .int .i64 0, .int .i64 0, .slice none 0 0] : Array Value)[i % 4]! := by
  induction m with
  | zero => intro i h; simp at h
  | succ m ih =>
    intro i h
    simp only [List.replicate_succ, List.flatten_cons]
    have h4 : zeroFc.length = 4 := rfl
    by_cases hi : i < 4
    · rw [List.getElem_append_left (by omega), Nat.mod_eq_of_lt hi]
      match i, hi with
      | 0, _ => rfl
      | 1, _ => rfl
      | 2, _ => rfl
      | 3, _ => rfl
    · rw [List.getElem_append_right (by omega)]
      have := ih (i - zeroFc.length) (by simp only [List.replicate_succ, List.flatten_cons, List.length_append] at h; omega)
      rw [this, show i % 4 = (i - zeroFc.length) % 4 by rw [h4]; omega]
theorem funcs_made (w : World) (n : Nat) (hn : n * 48 ≤ 140737488355328) : ∃ w', (Instr.makeSlice 23 (.int .i64 n) (.int .i64 n)).run Tryd.prog w = .ok (.slice (some ⟨w.heap.size, 0, none⟩) n n) w' ∧ IsR4 w' w.heap.size (List.replicate n zeroFc) ∧ Keeps None w w' := by
  obtain ⟨i0, hi, hz0, hz1, hz2⟩ := info_parts Tryd.infoFn
  obtain ⟨M, hM, hMs, hr⟩ := run_make_block (P := Tryd.prog) (w := w) 23 40 i0 _ 4 48 Tryd.underlying23 hi hz0 hz1 hz2 n (by omega) (by omega)
  have four : ∀ r ∈ List.replicate n zeroFc, r.length = 4 := fun r hr => by rw [List.eq_of_mem_replicate hr]; rfl
  refine ⟨_, hr, ⟨?_, four⟩, Keeps.alloc None w _⟩
  rw [heap_alloc_new]
  congr 2
  have hl := flat4_len _ four
  apply Array.ext
  · simp only [List.size_toArray, hl, List.length_replicate, hMs]
  · intro i h1 h2
    refine Eq.trans ?_ (zero_flat n i (by simpa using h2)).symm
    subst hM
    have h5 : (Value.agg #[Value.int .i64 0, .int .i64 0, .int .i64 0, .slice none 0 0]).cells = #[.int .i64 0, .int .i64 0, .int .i64 0, .slice none 0 0] := rfl
    simp only [h5, madeCells, Array.getElem_map, Array.getElem_range]
    rfl
theorem code_append (v : Value) (l : List Value) (x : Value) (n g ty : Nat) (w : World) (hn : n = l.length) (hx : x.oneCell' = true) (h : w.ownsRow 0 38 1 v n l) (hlen : (n + 1) * 24 ≤ 140737488355328)
    (hg : w.heap[g]? = some (.cells #[x] 38 (0, 0))) :
    ∃ b cap w', (Builtin.append_ #[44, 44] ty #[v, .slice (some ⟨g, 0, none⟩) 1 1]).run Tryd.prog w = .ok (.slice (some ⟨b, 0, none⟩) (n + 1) cap) w' ∧
      w'.ownsRow 0 38 1 (.slice (some ⟨b, 0, none⟩) (n + 1) cap) (n + 1) (l ++ [x]) ∧ Keeps (fun k => v.ownBlock = some k) w w' ∧ (v.ownBlock = some b ∨ w.heap.size ≤ b) := by
  obtain ⟨i0, hi, hz0, hz1, hz2⟩ := info_parts Tryd.infoCd
  obtain ⟨v', w', hr, ho, hgr, hm, -⟩ := run_append_moved (P := Tryd.prog) w 0 44 ty 38 i0 _ 1 24 Tryd.underlying44 hi hz0 hz1 hz2 rfl (by decide) v n l h
    ⟨g, 0, none⟩ 1 1 [x] rfl (by
      intro j u hu
      rw [show (⟨g, 0, none⟩ : Addr).add j = ⟨g, j, none⟩ by unfold Addr.add; split <;> simp_all, blk_cell hg]
      simpa using hu) (by
      intro u hu
      simp at hu
      subst hu
      exact hx) (by unfold maxLen; omega) (by omega) (Nat.zero_le _)
  rcases ho.2 with ⟨_, h0⟩ | ⟨b, cap, cur, rfl, _⟩
  · omega
  · refine ⟨b, cap, w', hr, ho, (Keeps.refl _ w).andGrown hgr (fun k e => .inl e), ?_⟩
    rcases hm with hm | ⟨g', e, hg⟩
    · exact .inl (hm.symm.trans rfl)
    · simp [Value.ownBlock] at e; exact .inr (by omega)

/-- A gift of the first functions of a list, in memory of its own; rows behind them. -/
structure IsGift (base : Nat) (w : World) (G : Nat) (cv : Value) (cs : List Nat) (l : List Fn) (more : List (List Value)) : Prop where
  fb : IsR4 w G (List.zipWith gfCells l cs ++ more)
  codes : w.ownsRow 0 38 1 cv l.length (List.zipWith gcV l cs)
  code : ∀ (i : Nat) (f : Fn) (c : Nat), l[i]? = some f → cs[i]? = some c → IsC w c (oddL f.code)
  len : cs.length = l.length
  nodup : cs.Nodup
  lowG : base ≤ G
  lowC : ∀ c ∈ cs, base ≤ c
  lowV : ∀ g, cv.ownBlock = some g → base ≤ g
theorem IsGift.more {base : Nat} {w w' : World} {G : Nat} {cv : Value} {cs : List Nat} {l : List Fn} {R : List (List Value)} (h : IsGift base w G cv cs l R) (hk : Keeps None w w') : IsGift base w' G cv cs l R :=
  ⟨h.fb.kept hk (fun f => f), hk.own h.codes (fun _ _ f => f), fun i f c hf hc => (h.code i f c hf hc).kept hk (fun f => f), h.len, h.nodup, h.lowG, h.lowC, h.lowV⟩
theorem zip_at {α β γ : Type} (f : α → β → γ) (l : List α) (m : List β) (k : Nat) (a : α) (b : β) (ha : l[k]? = some a) (hb : m[k]? = some b) : (List.zipWith f l m)[k]? = some (f a b) := by
  rw [List.getElem?_zipWith, ha, hb]
theorem IsGift.fn {base : Nat} {w : World} {G : Nat} {cv : Value} {cs : List Nat} {l : List Fn} {R : List (List Value)} (h : IsGift base w G cv cs l R) {k : Nat} {f : Fn} (hf : l[k]? = some f) : ∃ c, cs[k]? = some c ∧ FnAt w G (k * 4) f (some ⟨c, 0, none⟩) (f.code.length + 2) ∧ IsC w c (oddL f.code) := by
  have hk := (List.getElem?_eq_some_iff.1 hf).1
  obtain ⟨c, hc⟩ : ∃ c, cs[k]? = some c := ⟨cs[k]'(by have := h.len; omega), by simp⟩
  have hz := zip_at gfCells l cs k f c hf hc
  have hl : k < (List.zipWith gfCells l cs).length := (List.getElem?_eq_some_iff.1 hz).1
  obtain ⟨q0, q1, q2, q3⟩ := h.fb.at (k := k) (a := .int .i64 f.params) (b := .int .i64 f.regs) (c := .int .i64 f.slots) (d := .slice (some ⟨c, 0, none⟩) f.code.length (f.code.length + 2)) (by rw [List.getElem?_append_left hl]; exact hz)
  have hC := h.code k f c hf hc
  exact ⟨c, hc, ⟨q0, q1, q2, q3, hC.seen rfl (fun j i hi => by unfold oddL; rw [List.getElem?_append_left (List.getElem?_eq_some_iff.1 hi).1]; exact hi)⟩, hC⟩
theorem IsGift.seen {base : Nat} {w : World} {G : Nat} {cv : Value} {cs : List Nat} {l : List Fn} {R : List (List Value)} (h : IsGift base w G cv cs l R) : SeenF w (some ⟨G, 0, none⟩) l.length l :=
  ⟨rfl, fun _ => ⟨G, 0, rfl, blk_lt h.fb.blk, fun k f hf => by
    obtain ⟨c, _, h1, _⟩ := h.fn hf
    rw [Nat.zero_add]
    exact ⟨_, _, h1⟩⟩⟩
end Go.Proofs.YtcjmceedkfjbeaaDoor
