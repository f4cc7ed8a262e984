import Derived.Test.YtcjmceedkfjbeaaDoorPkAI
import Derived.Test.YtcjmceedkfjbeaaDoorPkAQ
/-! Decode of words with a wrong sum. -/
namespace Go.Proofs.YtcjmceedkfjbeaaDoor
set_option linter.unusedVariables false
set_option maxRecDepth 20000
open Go.RowKit Go.HeapKit

theorem SeenW.take {w : World} {a : Option Addr} {n : Nat} {zs : List Int} (h : SeenW w a n zs) (k : Nat) (hk : k ≤ n) : SeenW w a k (zs.take k) := by
  have hl := h.len
  have hm := h.most
  refine ⟨by simp; omega, by omega, fun x hx => h.ok x (List.mem_of_mem_take hx), fun h0 => ?_⟩
  obtain ⟨b, off, rfl, hb, hc⟩ := h.ex (by omega)
  refine ⟨b, off, rfl, hb, fun j x hx => hc j x ?_⟩
  rw [List.getElem?_take] at hx
  split at hx
  · exact hx
  · cases hx
set_option maxHeartbeats 1000000 in
theorem read_bad (a : Option Addr) (n c : Nat) (zs : List Int) (w : World) (hS : SeenW w a n zs) (hn : 3 ≤ n) (hc : n ≤ c) (x : Int) (hx : zs[n - 1]? = some x) (hb : ¬ x = sumV (zs.take (n - 1))) :
    Calls Tryd.prog 21 #[.slice a n c] w fun e w' => e = .panicked (thrown 58 0 0) ∧ Keeps None w w' := by
  obtain ⟨b, off, rfl, hlt, hcell⟩ := hS.ex (by omega)
  obtain ⟨m, rfl⟩ : ∃ m, n = m + 1 := ⟨n - 1, by omega⟩
  simp only [Nat.add_sub_cancel] at hx hb
  have hal := Keeps.alloc None w (.cells #[.slice none 0 0] 25)
  have y := hal.cell (hcell m x hx) (fun f => f)
  have hsm := fun wx (hk : Keeps None w wx) => sum_any (some ⟨b, off, none⟩) m c (zs.take m) wx ((hS.more hk).take m (by omega))
  obtain ⟨s, hs⟩ : ∃ s, s = sumV (zs.take m) := ⟨_, rfl⟩
  rw [← hs] at hsm hb
  have hb' : (x != s) = true := by simpa using hb
  have hmost := hS.most
  have i1 : (3 : Int) ≤ ((m + 1 : Nat) : Int) := by omega
  have i2 : wrap64 (((m + 1 : Nat) : Int) - 1) = (m : Int) := by unfold wrap64; omega
  have i3 : (m : Int) < ((m + 1 : Nat) : Int) := by omega
  have i4 : (m : Int) ≤ (c : Int) := by omega
  have i5 : (0 : Int) ≤ (m : Int) := by omega
  have HH : Hid (Keeps None w (w.alloc (.cells #[.slice none 0 0] 25))) := hal
  have HSM : Hid _ := hsm
  clear hS hcell hx hs hal hsm
  go_enter Tryd.func21, Tryd.ntmps21
  go_upto_region 4 with fail
  go_quiet ((go_at_call 26; exact Calls.quiet_of_same (HSM.out _ (HH.out.trans (Keeps.drewN None _ _) (fun _ f _ => f)))))
  go_wp2_with (go_at_call 35; refine (giveUp_any _ _ _ _).mono ?_; rintro e w' ⟨rfl, hw⟩; have hw2 := hw.symm; subst hw2)
  exact ⟨rfl, rfl, HH.out.trans (Keeps.drewN None _ _) (fun _ f _ => f)⟩
theorem decode_bad (a : Option Addr) (n c : Nat) (zs : List Int) (w : World) (hS : SeenW w a n zs) (hn : 3 ≤ n) (hc : n ≤ c) (x : Int) (hx : zs[n - 1]? = some x) (hb : ¬ x = sumV (zs.take (n - 1))) :
    Calls Tryd.prog 6 #[.slice a n c] w fun e w' => e = .returned (.tuple #[.agg #[.slice none 0 0], .int .i64 58]) ∧ Keeps None w w' := by
  have hmf : ∀ (fn : Go.Fn) (first cap : Array Value) (w : World), (Instr.makeFunc fn first cap).run Tryd.prog w = .ok (.func fn first cap) w := fun _ _ _ _ => rfl
  obtain ⟨b1, b2⟩ := two_boxes w #[.slice none 0 0] #[.int .i64 0] 25 26
  have hk2 := keeps2 w (.cells #[.slice none 0 0] 25) (.cells #[.int .i64 0] 26)
  have hrd := read_bad a n c zs _ (hS.more hk2) hn hc x hx hb
  have HO : Hid (IsOut ((w.alloc (.cells #[.slice none 0 0] 25)).alloc (.cells #[.int .i64 0] 26)) w.heap.size (w.heap.size + 1) (.slice none 0 0) 0 ∧ Keeps None w ((w.alloc (.cells #[.slice none 0 0] 25)).alloc (.cells #[.int .i64 0] 26))) := ⟨⟨b1, b2⟩, hk2⟩
  clear b1 b2 hk2 hS hx hb
  go_enter_defers Tryd.func6, Tryd.ntmps6
  go_wp2_with (go_at_call 21; refine hrd.mono ?_; rintro _ w3 ⟨rfl, hk3⟩)
  exact dout_panic rfl rfl (HO.out.1.kept hk3) rfl (fun w' hk => ⟨rfl, (HO.out.2.trans hk3 (fun _ f _ => f)).trans hk (fun i e hi => by omega)⟩)
end Go.Proofs.YtcjmceedkfjbeaaDoor
/-! Decode of any words. -/
namespace Go.Proofs.YtcjmceedkfjbeaaDoor
set_option linter.unusedVariables false
set_option maxRecDepth 20000
open Go.RowKit Go.HeapKit

/-- What Decode answers: the error, and the functions where there is none. -/
def decV (zs : List Int) : Int × List Fn :=
  if zs.length < 3 then (57, []) else
  if zs.getD (zs.length - 1) 0 ≠ sumV (zs.take (zs.length - 1)) then (58, []) else
  match readP (zs.take (zs.length - 1)) with
  | none => (57, [])
  | some fs => if (checkV fs).1 = 0 then (0, fs) else ((checkV fs).1, [])
theorem decode_at (a : Option Addr) (n c : Nat) (zs : List Int) (w : World) (hT : Tabs w) (hS : SeenW w a n zs) (hc : n ≤ c) (hcm : c ≤ maxLen) :
    Calls Tryd.prog 6 #[.slice a n c] w fun e w' => Keeps None w w' ∧ (((decV zs).1 ≠ 0 ∧ (decV zs).2 = [] ∧ e = .returned (.tuple #[.agg #[.slice none 0 0], .int .i64 (decV zs).1])) ∨
      ((decV zs).1 = 0 ∧ ∃ gb m E, e = .returned (.tuple #[.agg #[.slice (some ⟨gb, 0, none⟩) m m], .int .i64 0]) ∧ DecM w.heap.size w' gb m E (decV zs).2)) := by
  have hlen := hS.len
  by_cases hn : n < 3
  · have hd : decV zs = (57, []) := by unfold decV; rw [if_pos (by omega)]
    rw [hd]
    refine (decode_panic a n c w (fun wx _ => read_short _ _ _ wx hn)).mono ?_
    rintro e w' ⟨rfl, hk⟩
    exact ⟨hk, .inl ⟨by simp, rfl, rfl⟩⟩
  · obtain ⟨b, off, rfl, _, _⟩ := hS.ex (by omega)
    obtain ⟨n, rfl⟩ : ∃ k, n = k + 1 := ⟨n - 1, by omega⟩
    have hl1 : zs.length - 1 = n := by omega
    obtain ⟨x, hx⟩ : ∃ x, zs[n]? = some x := ⟨zs[n]'(by omega), List.getElem?_eq_getElem _⟩
    have hxd : zs.getD (zs.length - 1) 0 = x := by rw [hl1, List.getD_eq_getElem?_getD, hx]; rfl
    by_cases hb : x = sumV (zs.take n)
    · cases hr : readP (zs.take n) with
      | none =>
        have hd : decV zs = (57, []) := by
          unfold decV
          rw [if_neg (by omega), hxd, hl1, if_neg (by simpa using hb), hr]
        rw [hd]
        obtain ⟨z0, z1, r, hz⟩ : ∃ z0 z1 r, zs.take n = z0 :: z1 :: r := by
          match hq : zs.take n with
          | [] => have := congrArg List.length hq; rw [List.length_take] at this; simp only [List.length_nil] at this; omega
          | [_] => have := congrArg List.length hq; rw [List.length_take] at this; simp only [List.length_cons, List.length_nil] at this; omega
          | z0 :: z1 :: r => exact ⟨z0, z1, r, rfl⟩
        rw [hz] at hr
        refine (decode_panic _ (n + 1) c w (fun wx hk => read_form b off n c zs x z0 z1 r wx (hS.more hk) (by omega) hc hcm hx hb hz hr)).mono ?_
        rintro e w' ⟨rfl, hk⟩
        exact ⟨hk, .inl ⟨by simp, rfl, rfl⟩⟩
      | some fs =>
        obtain ⟨m, r, hz, h1, h2, hrf, hfl, himg⟩ := readP_some hr
        have hok := fns_ok (fs := fs) (by rw [← himg]; exact fun y hy => hS.ok y (List.mem_of_mem_take hy))
        by_cases hck : (checkV fs).1 = 0
        · have hd : decV zs = (0, fs) := by
            unfold decV
            rw [if_neg (by omega), hxd, hl1, if_neg (by simpa using hb), hr]
            simp only
            rw [if_pos hck]
          rw [hd]
          refine (decode_goodM b off n c zs r m fs x w hT hS (by omega) hc hcm hx hb hz h1 h2 hrf hfl hok (check_zero hck)).mono ?_
          rintro e w' ⟨gb, E, rfl, hM, hk⟩
          exact ⟨hk, .inr ⟨rfl, gb, m, E, rfl, hM⟩⟩
        · have hd : decV zs = ((checkV fs).1, []) := by
            unfold decV
            rw [if_neg (by omega), hxd, hl1, if_neg (by simpa using hb), hr]
            simp only
            rw [if_neg hck]
          rw [hd]
          obtain ⟨e1, e2, e3, hE⟩ : ∃ e1 e2 e3, checkV fs = (e1, e2, e3) := ⟨_, _, _, rfl⟩
          have h1e : (checkV fs).1 = e1 := by rw [hE]
          rw [h1e] at hck ⊢
          refine (decode_fault b off n c zs r m fs x w hT hS (by omega) hc hcm hx hb hz h1 h2 hrf hfl hok e1 e2 e3 hE (by simpa using hck)).mono ?_
          rintro e w' ⟨rfl, hk⟩
          exact ⟨hk, .inl ⟨hck, rfl, rfl⟩⟩
    · have hd : decV zs = (58, []) := by
        unfold decV
        rw [if_neg (by omega), hxd, hl1, if_pos hb]
      rw [hd]
      refine (decode_bad (some ⟨b, off, none⟩) (n + 1) c zs w hS (by omega) hc x (by simpa using hx) (by simpa using hb)).mono ?_
      rintro e w' ⟨rfl, hk⟩
      exact ⟨hk, .inl ⟨by simp, rfl, rfl⟩⟩
/-- How far the words reach tells whether code can be read. -/
theorem readCode_short : ∀ (n : Nat) (zs : List Int), zs.length < n * 5 → readCode n zs = none
  | 0, zs, h => by omega
  | n + 1, zs, h => by
    simp only [readCode]
    match zs, h with
    | [], _ => rfl
    | [_], _ => rfl
    | [_, _], _ => rfl
    | [_, _, _], _ => rfl
    | [_, _, _, _], _ => rfl
    | a :: b :: c :: d :: e :: r, h =>
      simp only [readIns, Option.bind_some]
      rw [readCode_short n r (by simp only [List.length_cons] at h; omega)]
      rfl
theorem readCode_long : ∀ (n : Nat) (zs : List Int), n * 5 ≤ zs.length → ∃ c, readCode n zs = some (c, zs.drop (n * 5)) ∧ c.length = n ∧ ∀ k, k < n → c[k]? = some ⟨zs.getD (k * 5) 0, zs.getD (k * 5 + 1) 0, zs.getD (k * 5 + 2) 0, zs.getD (k * 5 + 3) 0, zs.getD (k * 5 + 4) 0⟩
  | 0, zs, _ => ⟨[], by simp [readCode], rfl, fun k hk => by omega⟩
  | n + 1, zs, h => by
    match zs, h with
    | [], h => simp at h
    | [_], h => simp at h; omega
    | [_, _], h => simp at h; omega
    | [_, _, _], h => simp at h; omega
    | [_, _, _, _], h => simp at h; omega
    | a :: b :: c :: d :: e :: r, h =>
      obtain ⟨cs, h1, h2, h3⟩ := readCode_long n r (by simp only [List.length_cons] at h; omega)
      refine ⟨⟨a, b, c, d, e⟩ :: cs, ?_, by simp [h2], fun k hk => ?_⟩
      · simp only [readCode, readIns, Option.bind_some, h1, Option.map_some]
        rw [show (n + 1) * 5 = n * 5 + 1 + 1 + 1 + 1 + 1 by omega]
        rfl
      · cases k with
        | zero => rfl
        | succ k =>
          have := h3 k (by omega)
          rw [List.getElem?_cons_succ, this, show (k + 1) * 5 = k * 5 + 1 + 1 + 1 + 1 + 1 by omega]
          rfl
end Go.Proofs.YtcjmceedkfjbeaaDoor
